/-
  The program takes a word.
-/
import Derived.Test.YtlodenfdcckemaaDoorH30
import Derived.Deep.RegionLaw
import Derived.BigRegion
namespace Go.Proofs.YtlodenfdcckemaaDoor
open Go.RowKit

theorem Made.shapeE {w : World} {base : Nat} {vE vO : Value} {vs : List Value} {s : St} (h : Made w base vE vO vs s) : ∃ ao cap, vE = .slice ao s.ended.length cap := by rw [← h.len]; exact h.oe.shape
theorem Made.shapeO {w : World} {base : Nat} {vE vO : Value} {vs : List Value} {s : St} (h : Made w base vE vO vs s) : ∃ ao cap, vO = .slice ao s.opened.length cap := by
  have := h.oo.shape
  rwa [List.length_map] at this

set_option maxHeartbeats 1000000 in
theorem end_any (B base v c : Nat) (vE vO : Value) (vs : List Value) (s : St) (w : World) (hB : Blk w B 123 [.int .i64 v, .int .i64 c, vE, vO]) (hM : Made w base vE vO vs s) (hE : s.ended.length ≤ 200) (hbase : base ≤ w.heap.size) (hBb : B < base) :
    Calls Tryd.prog 124 #[.pointer (some ⟨B, 0, none⟩)] w fun e w' => e = .returned (.tuple #[]) ∧ ∃ vE', Blk w' B 123 [.int .i64 v, .int .i64 c, vE', .slice none 0 0] ∧ Made w' base vE' (.slice none 0 0) (vs ++ [vO]) ⟨s.ended ++ [s.opened], []⟩ ∧ Chg (fun k => k = B ∨ vE.ownBlock = some k) w w' ∧ (∀ k, OB (vs ++ [vO]) (.slice none 0 0) k → OB vs vO k) := by
  have c2 : w.cell? ⟨B, 2, none⟩ = some vE := hB.cell (i := 2) (by simp) undef
  have c3 : w.cell? ⟨B, 3, none⟩ = some vO := hB.cell (i := 3) (by simp) undef
  have hBl := hB.lt
  obtain ⟨ao, co, hvO⟩ := hM.shapeO
  obtain ⟨ae, ce, hvE⟩ := hM.shapeE
  obtain ⟨i0, hi, hz0, hz1, hz2⟩ := info_parts Tryd.info24
  have hone : ∀ u ∈ [vO], u.oneCell' = true := by intro u hu; simp at hu; rw [hu, hvO]; rfl
  have hlen : vs.length ≤ 200 := by rw [hM.len]; exact hE
  have hneB : vE.ownBlock ≠ some B := own_blk hM.oe hB (by decide)
  have HV : Hid (vE = .slice ae s.ended.length ce) := hvE
  subst hvO
  clear hvE
  go_enter Tryd.func124, Tryd.ntmps124
  go_wp2
  go_region_law ((refine step_append_lies _ (by rfl) (.tmp 6) (.tmp 11) 23 (by rfl) base 24 i0 (.slice none 0 0) 1 24 Tryd.underlying23 hi hz0 hz1 hz2 (by rfl) (by decide) vE vs.length vs (by rfl) (by exact (hM.oe.alloc _).own) ⟨w.heap.size, 0, none⟩ 1 1 [.slice ao s.opened.length co] (by rfl) (by rfl) (by exact World.news_of_block (heap_alloc_new w _)) hone (by decide) (by unfold maxLen; omega) (by omega) (by simp; omega) (w.heap.size + 1) (by simp) ?_; intro g cap w1 hown1 hgrow hat hlt; have B1 := Blk.grown (hB.alloc _).drew hgrow hneB; have d1 : w1.cell? ⟨B, 2, none⟩ = some vE := B1.cell (i := 2) (by simp) undef; have d2 : w1.frozen? ⟨B, 2, none⟩ = false := B1.frozen 2))
  all_goals
    have hC1 : Chg (fun k => vE.ownBlock = some k) w w1 := (Chg.of_below (alloc_below' w _)).drew.trans (Chg.of_grown hgrow (fun k e => e) (fun k e o ho => (hM.oe.alloc _).cells e o ho))
    obtain ⟨M1, B2, O2⟩ := hM.ends hB (by decide) (own_of hown1) hC1
    have B3 := B2.set 2 (.slice (some ⟨g, 0, none⟩) (vs.length + 1) cap)
    have e3 : (w1.setCell ⟨B, 2, none⟩ (.slice (some ⟨g, 0, none⟩) (vs.length + 1) cap)).cell? ⟨B, 3, none⟩ = some (.slice ao s.opened.length co) := B3.cell (i := 3) (by simp) undef
    have f3 := B3.frozen 3
    go_wp2
    go_end0
    refine ⟨rfl, _, B3.set 3 (.slice none 0 0), ?_, ?_, O2⟩
    · exact (M1.chg ((Chg.refl (fun k => k = B) w1).setB B 2 rfl _) (fun k hk _ e => by omega)).chg ((Chg.refl (fun k => k = B) _).setB B 3 rfl _) (fun k hk _ e => by omega)
    · exact ((hC1.mono (T := fun k => k = B ∨ vE.ownBlock = some k) (fun k _ h => Or.inr h)).setB B 2 (Or.inl rfl) _).setB B 3 (Or.inl rfl) _

theorem natAbs_max (k : Int) : max k (-k) = k.natAbs := by omega

theorem num_le {l : Bytes} {k : Int} (h : num l = some k) : -999999 ≤ k ∧ k ≤ 999999 := by
  unfold num at h
  split at h
  · simp at h
  · split at h
    · rename_i b r _
      cases hf : figs r with
      | none => rw [hf] at h; simp at h
      | some n => have := figs_le hf; rw [hf] at h; simp at h; omega
    · rename_i b r _
      cases hf : figs (b :: r) with
      | none => rw [hf] at h; simp at h
      | some n => have := figs_le hf; rw [hf] at h; simp at h; omega

set_option maxHeartbeats 2000000 in
theorem take1_any (B base v c : Nat) (x : ByteArray) (vE vO : Value) (vs : List Value) (s : St) (w : World) (hB : Blk w B 123 [.int .i64 v, .int .i64 c, vE, vO]) (hM : Made w base vE vO vs s) (hc : c ≤ 200) (hE : s.ended.length ≤ c) (hO : s.opened.length ≤ 20) (hbase : base ≤ w.heap.size) (hBb : B < base)
    (hx : x.size ≤ 4000000) (hx0 : bs x ≠ []) :
    Calls Tryd.prog 108 #[.pointer (some ⟨B, 0, none⟩), .string x] w fun e w' => e = .returned (.int .i64 (take1 v c s (bs x)).1) ∧ ∃ vE' vO' vs', Blk w' B 123 [.int .i64 v, .int .i64 c, vE', vO'] ∧ Made w' base vE' vO' vs' (take1 v c s (bs x)).2 ∧ Chg (fun k => k = B ∨ vE.ownBlock = some k ∨ vO.ownBlock = some k) w w' ∧ (∀ k, OB vs' vO' k → OB vs vO k ∨ w.heap.size ≤ k) := by
  have c0 : w.cell? ⟨B, 0, none⟩ = some (.int .i64 v) := hB.cell (i := 0) (by simp) undef
  have c1 : w.cell? ⟨B, 1, none⟩ = some (.int .i64 c) := hB.cell (i := 1) (by simp) undef
  obtain ⟨ao, co, hvO⟩ := hM.shapeO
  obtain ⟨ae, ce, hvE⟩ := hM.shapeE
  have call := fun w => number_any x hx hx0 w
  cases hn : num (bs x) with
  | none =>
    have hT : Hid (take1 v c s (bs x) = (2, s)) := by show take1 v c s (bs x) = _; unfold take1; rw [hn]
    have hso : (num (bs x)).isSome = false := by rw [hn]; rfl
    rw [hso] at call
    clear hso hn
    go_enter Tryd.func108, Tryd.ntmps108
    go_wp2_with (go_at_call 123; refine (call _).mono ?_; rintro e w' ⟨rfl, rfl⟩)
    go_ret
    rw [hT.out]
    exact ⟨rfl, vE, vO, vs, hB, hM, Chg.refl _ _, fun _ h => Or.inl h⟩
  | some n =>
    have hso : (num (bs x)).isSome = true := by rw [hn]; rfl
    have hnn : numN (bs x) = n := by unfold numN; rw [hn]; rfl
    have hn6 := num_le hn
    rw [hso, hnn] at call
    have c2 : w.cell? ⟨B, 2, none⟩ = some (.slice ae s.ended.length ce) := by rw [← hvE]; exact hB.cell (i := 2) (by simp) undef
    have c3 : w.cell? ⟨B, 3, none⟩ = some (.slice ao s.opened.length co) := by rw [← hvO]; exact hB.cell (i := 3) (by simp) undef
    have hT : Hid (take1 v c s (bs x) = if n.natAbs > v then (6, s) else if s.ended.length = c then (4, s) else
      if n = 0 then (0, ⟨s.ended ++ [s.opened], []⟩) else if s.opened.length = 20 then (5, s) else (0, ⟨s.ended, s.opened ++ [n]⟩)) := by show take1 v c s (bs x) = _; unfold take1; rw [hn]
    clear hso hnn hn
    by_cases h6 : v < n.natAbs
    · have h6' : (v : Int) < max n (-n) := by omega
      go_enter Tryd.func108, Tryd.ntmps108
      go_wp2_with (go_at_call 123; refine (call _).mono ?_; rintro e w' ⟨rfl, rfl⟩)
      go_ret
      rw [hT.out, if_pos h6]
      exact ⟨rfl, vE, vO, vs, hB, hM, Chg.refl _ _, fun _ h => Or.inl h⟩
    · have h6' : ¬ (v : Int) < max n (-n) := by omega
      have hT2 : Hid (take1 v c s (bs x) = if s.ended.length = c then (4, s) else if n = 0 then (0, ⟨s.ended ++ [s.opened], []⟩) else if s.opened.length = 20 then (5, s) else (0, ⟨s.ended, s.opened ++ [n]⟩)) := by
        show take1 v c s (bs x) = _
        rw [hT.out, if_neg h6]
      clear hT h6
      by_cases h4 : s.ended.length = c
      · have h4' : ((s.ended.length : Int) == (c : Int)) = true := by simp [h4]
        have HT : Hid (take1 v c s (bs x) = (4, s)) := by show take1 v c s (bs x) = _; rw [hT2.out, if_pos h4]
        clear hT2 h4
        go_enter Tryd.func108, Tryd.ntmps108
        go_wp2_with (go_at_call 123; refine (call _).mono ?_; rintro e w' ⟨rfl, rfl⟩)
        go_quiet (fail)
        go_wp2
        go_ret
        rw [HT.out]
        exact ⟨rfl, vE, vO, vs, hB.drewN _, hM.drewN _, (Chg.refl _ _).drewN _, fun _ h => Or.inl h⟩
      · have h4' : ((s.ended.length : Int) == (c : Int)) = false := by simp; omega
        by_cases h0 : n = 0
        · have HT : Hid (take1 v c s (bs x) = (0, ⟨s.ended ++ [s.opened], []⟩)) := by show take1 v c s (bs x) = _; rw [hT2.out, if_neg h4, if_pos h0]
          have h0' : (n == 0) = true := by simp [h0]
          clear hT2 h4 h0
          go_enter Tryd.func108, Tryd.ntmps108
          go_wp2_with (go_at_call 123; refine (call _).mono ?_; rintro e w' ⟨rfl, rfl⟩)
          go_quiet (fail)
          go_wp2_with (go_at_call 124; refine (end_any B base v c vE vO vs s _ (hB.drewN _) (hM.drewN _) (by omega) hbase hBb).mono ?_; rintro e w2 ⟨rfl, vE', hB2, hM2, hC2, hO2⟩)
          go_ret
          rw [HT.out]
          exact ⟨rfl, _, _, _, hB2, hM2, ((Chg.refl _ _).drewN _).trans (hC2.mono (fun k _ h => h.imp (fun e => e) (fun e => Or.inl e))), fun k h => Or.inl (hO2 k h)⟩
        · have hT3 : Hid (take1 v c s (bs x) = if s.opened.length = 20 then (5, s) else (0, ⟨s.ended, s.opened ++ [n]⟩)) := by
            show take1 v c s (bs x) = _
            rw [hT2.out, if_neg h4, if_neg h0]
          have h0' : (n == 0) = false := by simp [h0]
          clear hT2 h4 h0
          by_cases h5 : s.opened.length = 20
          · have h5' : ((s.opened.length : Int) == 20) = true := by simp [h5]
            have HT : Hid (take1 v c s (bs x) = (5, s)) := by show take1 v c s (bs x) = _; rw [hT3.out, if_pos h5]
            clear hT3 h5
            go_enter Tryd.func108, Tryd.ntmps108
            go_wp2_with (go_at_call 123; refine (call _).mono ?_; rintro e w' ⟨rfl, rfl⟩)
            go_quiet (fail)
            go_wp2
            go_ret
            rw [HT.out]
            exact ⟨rfl, vE, vO, vs, hB.drewN _, hM.drewN _, (Chg.refl _ _).drewN _, fun _ h => Or.inl h⟩
          · have h5' : ((s.opened.length : Int) == 20) = false := by simp; omega
            have HT : Hid (take1 v c s (bs x) = (0, ⟨s.ended, s.opened ++ [n]⟩)) := by show take1 v c s (bs x) = _; rw [hT3.out, if_neg h5]
            have f3 := hB.frozen 3
            clear hT3 h5
            go_enter Tryd.func108, Tryd.ntmps108
            go_wp2_with (go_at_call 123; refine (call _).mono ?_; rintro e w' ⟨rfl, rfl⟩)
            go_quiet (fail)
            go_wp2_with (at_builtin; refine wpList_append_new (.tmp 16) (.tmp 18) 24 3 (.int .i64 0) 8 Tryd.underlying24 Tryd.info3 rfl base w'.heap.size vO (ints s.opened) [.int .i64 n] 1 s.opened.length (by simp) rfl (by decide) (by rw [hvO]; rfl) (by rfl) (by exact hM.oo.alloc _) (by exact blk_new w' [.int .i64 n] 3) (by intro u hu; simp at hu; rw [hu]; rfl) (by unfold maxLen; omega) (by omega) (by simp; omega) ?_; intro g cap w1 hown hgr hat hlt; have hC1 := ((Chg.refl (fun k => vO.ownBlock = some k) w').drewN _).trans ((Chg.of_below (alloc_below' _ _)).trans (Chg.of_grown hgr (fun k e => e) (fun k e o ho => (hM.oo.alloc _).cells e o ho))); obtain ⟨M1, B1, O1⟩ := hM.more hB (by decide) hown hC1 (hat.imp (fun e => e) (fun e => by rw [e]; exact (alloc_below' _ _).size)); have d3 : w1.cell? ⟨B, 3, none⟩ = some vO := B1.cell (i := 3) (by simp) undef; have g3 := B1.frozen 3)
            go_ret
            rw [HT.out]
            refine ⟨rfl, vE, _, vs, B1.set 3 _, M1.chg ((Chg.refl (fun k => k = B) w1).setB B 3 rfl _) (fun k hk _ e => by omega), ?_, O1⟩
            exact (hC1.mono (T := fun k => k = B ∨ vE.ownBlock = some k ∨ vO.ownBlock = some k) (fun k _ h => Or.inr (Or.inr h))).setB B 3 (Or.inl rfl) _

set_option maxHeartbeats 400000 in
theorem lacks_any (B base v c : Nat) (vE vO : Value) (vs : List Value) (s : St) (w : World) (hB : Blk w B 123 [.int .i64 v, .int .i64 c, vE, vO]) (hM : Made w base vE vO vs s) :
    Calls Tryd.prog 109 #[.pointer (some ⟨B, 0, none⟩)] w fun e w' => e = .returned (.int .i64 (lacks c s)) ∧ Below w.heap.size w w' := by
  have c1 : w.cell? ⟨B, 1, none⟩ = some (.int .i64 c) := hB.cell (i := 1) (by simp) undef
  obtain ⟨ao, co, hvO⟩ := hM.shapeO
  obtain ⟨ae, ce, hvE⟩ := hM.shapeE
  have c2 : w.cell? ⟨B, 2, none⟩ = some (.slice ae s.ended.length ce) := by rw [← hvE]; exact hB.cell (i := 2) (by simp) undef
  have c3 : w.cell? ⟨B, 3, none⟩ = some (.slice ao s.opened.length co) := by rw [← hvO]; exact hB.cell (i := 3) (by simp) undef
  have hL : Hid (lacks c s = if 0 < s.opened.length then 2 else if s.ended.length < c then 4 else 0) := rfl
  by_cases h1 : 0 < s.opened.length
  · go_enter Tryd.func109, Tryd.ntmps109
    go_wp2
    go_ret
    rw [hL.out, if_pos h1]
    exact ⟨rfl, Below.refl _ _⟩
  · by_cases h2 : s.ended.length < c
    · have h2' : decide (s.ended.length < c) = true := decide_eq_true h2
      go_enter Tryd.func109, Tryd.ntmps109
      go_wp2
      go_quiet (fail)
      go_wp2
      go_ret
      rw [hL.out, if_neg h1, if_pos h2]
      exact ⟨rfl, below_drewN (Below.refl _ _) _⟩
    · have h2' : decide (s.ended.length < c) = false := decide_eq_false h2
      go_enter Tryd.func109, Tryd.ntmps109
      go_wp2
      go_quiet (fail)
      go_wp2
      go_ret
      rw [hL.out, if_neg h1, if_neg h2]
      exact ⟨rfl, below_drewN (Below.refl _ _) _⟩
end Go.Proofs.YtlodenfdcckemaaDoor
