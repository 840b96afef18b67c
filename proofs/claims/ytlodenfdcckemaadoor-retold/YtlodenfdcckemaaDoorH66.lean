/-
  The program reads a text.
-/
import Derived.Test.YtlodenfdcckemaaDoorH65
namespace Go.Proofs.YtlodenfdcckemaaDoor
open Go.RowKit Go.Shelf

/-- Lists of lists that a call has made. -/
def Lists (W : World) (base : Nat) (v : Value) (vs : List Value) (cs : List (List Int)) : Prop := Made W base v (.slice none 0 0) vs ⟨cs, []⟩

theorem Own.down {w : World} {b b' : Nat} {t : TypeId} {v : Value} {xs : List Value} (h : Own w b t v xs) (hb : b' ≤ b) : Own w b' t v xs := by
  rcases h with h | ⟨g, cap, rfl, h1, h2, hr⟩
  · exact Or.inl h
  · exact Or.inr ⟨g, cap, rfl, by omega, h2, hr⟩

theorem Made.close {W : World} {b b' : Nat} {vE vO : Value} {vs : List Value} {s : St} (h : Made W b vE vO vs s) (hb : b' ≤ b) : Lists W b' vE vs s.ended := by
  refine ⟨h.oe.down hb, h.len, fun i hi => (h.ls i hi).down hb, Own.nil _ _ _, ?_⟩
  have hnd := h.nd
  rw [List.filterMap_append] at hnd ⊢
  rw [show List.filterMap Value.ownBlock [Value.slice none 0 0] = [] from rfl, List.append_nil]
  exact (List.nodup_append.1 hnd).1

/-- What reading a text answers. -/
def Read (s : ByteArray) (w : World) (e : Ending) (w' : World) : Prop := ∃ vC vs, e = .returned (.tuple #[.agg #[.int .i64 (parse (bs s)).vars, vC], .int .i64 (parse (bs s)).err, .int .i64 (parse (bs s)).place]) ∧ Lists w' w.heap.size vC vs (parse (bs s)).clauses ∧ Below w.heap.size w w'

theorem lists_none (W : World) (base : Nat) : Lists W base (.slice none 0 0) [] [] := Made.start W base

theorem res31 {fn : Func} {tmps : Array Value} {W : World} {R : Nat} {a : Int} {ao : Option Addr} {n cap : Nat} {x y : Int} (hf : fn.results = #[.cell 2 31, .tmp 3, .tmp 4]) (hB : Blk W R 31 [.int .i64 a, .slice ao n cap]) (h2 : tmps[2]? = some (.pointer (some ⟨R, 0, none⟩))) (h3 : tmps[3]? = some (.int .i64 x)) (h4 : tmps[4]? = some (.int .i64 y)) :
    (results fn tmps).run Tryd.prog W = .ok (.tuple #[.agg #[.int .i64 a, .slice ao n cap], .int .i64 x, .int .i64 y]) W := by
  have c0 : W.cell? ⟨R, 0, none⟩ = some (.int .i64 a) := hB.cell (i := 0) (by simp) undef
  have c1 : W.cell? ⟨R, 1, none⟩ = some (.slice ao n cap) := hB.cell (i := 1) (by simp) undef
  simp [results, hf, go_sem, c0, c1, h2, h3, h4]

theorem parse_none {l : Bytes} (h : (rows l).dropWhile remark = []) : parse l = Said.no 1 ((rows l).length + 1) := by unfold parse; rw [h]
theorem parse_head {l r : Bytes} {rs : List Bytes} (h : (rows l).dropWhile remark = r :: rs) (he : headErr (headOf r) ≠ 0) : parse l = Said.no (headErr (headOf r)) (((rows l).takeWhile remark).length + 1) := by unfold parse; rw [h]; simp only; rw [if_neg he]
theorem parse_body {l r : Bytes} {rs : List Bytes} {v c : Nat} (h : (rows l).dropWhile remark = r :: rs) (he : headErr (headOf r) = 0) (hh : headOf r = some (v, c)) : parse l = bodyOf v c rs := by unfold parse; rw [h]; simp only; rw [if_pos he, hh]

theorem head_ok {r : Bytes} (h : headErr (headOf r) = 0) : ∃ v c : Nat, headOf r = some (v, c) ∧ v ≤ 20 ∧ c ≤ 200 ∧ headX r = v ∧ headY r = c := by
  cases hh : headOf r with
  | none => rw [hh] at h; simp [headErr] at h
  | some p =>
    obtain ⟨v, c⟩ := p
    obtain ⟨e1, e2, e3⟩ := headX_some hh
    rw [e1] at h
    refine ⟨v, c, rfl, ?_, ?_, ?_, ?_⟩
    · split at h
      · cases h
      · omega
    · split at h
      · cases h
      · split at h
        · cases h
        · omega
    · unfold headX; rw [e1, h, if_pos rfl, e2]
    · unfold headY; rw [e1, h, if_pos rfl, e3]

theorem read_no {s : ByteArray} {w W : World} {e p : Int} (h : parse (bs s) = Said.no e p) (hb : Below w.heap.size w W) : Read s w (.returned (.tuple #[.agg #[.int .i64 0, .slice none 0 0], .int .i64 e, .int .i64 p])) W :=
  ⟨.slice none 0 0, [], by rw [h]; rfl, by rw [h]; exact lists_none _ _, hb⟩

theorem lacks_zero {c : Nat} {s : St} (h : lacks c s = 0) : s.opened = [] := by
  unfold lacks at h
  split at h
  · cases h
  · rename_i hn
    exact List.length_eq_zero_iff.1 (by omega)

theorem all_closed {v c : Nat} {ws : List Bytes} (h : (takeAllW v c ws).1 = 0) : (takeAllW v c ws).2.1 = 0 := by
  have key : ∀ (ws : List Bytes) (k : Nat) (s : St), (takeW v c k s ws).1 = 0 → (takeW v c k s ws).2.1 = 0 := by
    intro ws
    induction ws with
    | nil => intro k s _; rfl
    | cons w ws ih =>
      intro k s h
      unfold takeW at h ⊢
      split
      · rename_i h0; rw [if_pos h0] at h; exact ih _ _ h
      · rename_i h0; rw [if_neg h0] at h; exact absurd h h0
  unfold takeAllW at h ⊢
  simp only at h ⊢
  split
  · rename_i h0
    rw [if_pos h0] at h
    split
    · exact key _ _ _ h0
    · rename_i h1; rw [if_neg h1] at h; exact absurd h h1
  · rename_i h0; rw [if_neg h0] at h; exact absurd h h0

set_option maxRecDepth 100000 in
set_option maxHeartbeats 2000000 in
theorem formula_any (s : ByteArray) (m : Int) (w : World) (hs : s.size ≤ 1100000) (hT : Lib.Utf8Tabs 2 3 w) (hm : w.cell? ⟨1, 0, none⟩ = some (.int .i64 m)) :
    Calls Tryd.prog 58 #[.string s] w fun e w' => Read s w e w' := by
  have h2 := size2 hT
  go_enter Tryd.func58, Tryd.ntmps58
  have n1 := blk_new w [.int .i64 0, .slice none 0 0] 31
  have z1 : (w.alloc (.cells #[.int .i64 0, .slice none 0 0] 31)).heap.size = w.heap.size + 1 := by simp
  have n2 := blk_new (w.alloc (.cells #[.int .i64 0, .slice none 0 0] 31)) [.string s, .int .i64 0] 117
  have n1' := n1.alloc (.cells #[.string s, .int .i64 0] 117)
  have hb0 : Below w.heap.size w ((w.alloc (.cells #[.int .i64 0, .slice none 0 0] 31)).alloc (.cells #[.string s, .int .i64 0] 117)) := ((Below.refl _ w).alloc (Nat.le_refl _) _).alloc (by simp) _
  rw [z1] at n2
  clear z1 n1
  go_wp2_with fail
  generalize ((w.alloc (.cells #[.int .i64 0, .slice none 0 0] 31)).alloc (.cells #[.string s, .int .i64 0] 117)) = W0 at *
  refine (next_any (w.heap.size + 1) s 0 m W0 n2 (by omega) (by omega) ((hb0.cell (p := ⟨1, 0, none⟩) (show 1 < w.heap.size by omega)).trans hm) (by omega)).mono ?_
  rintro e W1 ⟨⟨s', hle, hnx⟩, hcx⟩
  have k1 := n1'.chg hcx (by omega)
  have hbz : Below w.heap.size w W1 := hb0.trans (hcx.below hb0.size (fun k e => by omega))
  have r0 : W1.cell? ⟨w.heap.size, 0, none⟩ = some (.int .i64 0) := k1.cell (i := 0) (by simp) undef
  have r1 : W1.cell? ⟨w.heap.size, 1, none⟩ = some (.slice none 0 0) := k1.cell (i := 1) (by simp) undef
  have f0 := k1.frozen 0
  have f1 := k1.frozen 1
  rcases hnx with ⟨h1, rfl, hL⟩ | ⟨a, h1, h3, h4, rfl, hL⟩
  · have hP := parse_none h1
    have hPd : Hid (parse (bs s) = Said.no 1 ((rows (bs s)).length + 1)) := hP
    have l1 : W1.cell? ⟨w.heap.size + 1, 1, none⟩ = some (.int .i64 (0 + ((rows (bs s)).length : Int))) := hL.cell (i := 1) (by simp) undef
    rw [Int.zero_add] at l1
    have hrl := rows_length (bs s)
    rw [← size_bs] at hrl
    clear hP
    go_wp2
    go_region
    all_goals go_wp2
    all_goals exact bodyPost_ret (res31 rfl ((k1.set 0 _).set 1 _).drew rfl rfl rfl) rfl (read_no hPd.out (((hbz.setCell (p := ⟨w.heap.size, 0, none⟩) (Nat.le_refl _) _).setCell (p := ⟨w.heap.size, 1, none⟩) (Nat.le_refl _) _).drew))
  · have hm1 : W1.cell? ⟨1, 0, none⟩ = some (.int .i64 m) := (hbz.cell (p := ⟨1, 0, none⟩) (show 1 < w.heap.size by omega)).trans hm
    have l1 : W1.cell? ⟨w.heap.size + 1, 1, none⟩ = some (.int .i64 (0 + (((rows (bs s)).takeWhile remark).length : Int) + 1)) := hL.cell (i := 1) (by simp) undef
    rw [Int.zero_add] at l1 hL
    have hd := head_any a m W1 (by omega) hm1
    obtain ⟨ln, hln⟩ : ∃ ln : Nat, ((rows (bs s)).takeWhile remark).length = ln := ⟨_, rfl⟩
    by_cases he : headErr (headOf (bs a)) = 0
    · obtain ⟨v, c, hh, hv, hc, e1, e2⟩ := head_ok he
      have hP := parse_body h1 he hh
      rw [e1, e2, he] at hd
      rw [hln] at l1 h4 hL
      clear he hh e1 e2 hln h1
      go_wp2_with (first
        | (go_at_call 87; refine hd.mono ?_; clear hd; rintro e W2 ⟨rfl, hb2⟩; have kL := hL.below' hb2; have kR := k1.below' hb2; have hbz2 := hbz.trans (hb2.mono hbz.size); have nB := blk_new W2 [.int .i64 v, .int .i64 c, .slice none 0 0, .slice none 0 0] 123; have al := alloc_below' W2 (.cells #[.int .i64 v, .int .i64 c, .slice none 0 0, .slice none 0 0] 123); have zz : (W2.alloc (.cells #[.int .i64 v, .int .i64 c, .slice none 0 0, .slice none 0 0] 123)).heap.size = W2.heap.size + 1 := by simp)
        | (go_at_call 88; fail))
      generalize W2.alloc (.cells #[.int .i64 v, .int .i64 c, .slice none 0 0, .slice none 0 0] 123) = W3 at *
      have hbz3 := hbz2.trans (al.mono hbz2.size)
      have hz2 := hb2.size
      have hzL := hL.lt
      have hT3 : Lib.Utf8Tabs 2 3 W3 := tabs_of hT (hbz3.block 2 (by omega)) (hbz3.block 3 (by omega))
      have hm3 : W3.cell? ⟨1, 0, none⟩ = some (.int .i64 m) := (hbz3.cell (p := ⟨1, 0, none⟩) (show 1 < w.heap.size by omega)).trans hm
      refine (takeAll_any W2.heap.size (w.heap.size + 1) (W2.heap.size + 1) v c s' ((ln : Int) + 1) m W3 nB (kL.below' al) ⟨by omega, by omega⟩ ⟨by omega, by omega⟩ (by omega) hc (by omega) (by omega) hT3 hm3).mono ?_
      rintro e W4 ⟨⟨fw, fB, fL, fb, fBb, fBe, fBa, fBc, fv, fc, fm⟩, h01, h02, h03, h04, h05, h06, hA1, hA2, hA3⟩
      dsimp only at h01 h02 h03 h04 h05 h06 hA1 hA2 hA3
      subst h01 h02 h03 h04 h05 h06
      have kR3 := kR.below' al
      have hC4 : Chg (fun k => w.heap.size + 1 ≤ k) fw W4 := hA3.mono (fun k _ hk => by rcases hk with hk | hk | hk <;> dsimp only at hk <;> omega)
      have kR4 := kR3.chg hC4 (by omega)
      have hbz4 : Below w.heap.size w W4 := hbz3.trans (hC4.below hbz3.size (fun k hk => by omega))
      have r0' : W4.cell? ⟨w.heap.size, 0, none⟩ = some (.int .i64 0) := kR4.cell (i := 0) (by simp) undef
      have r1' : W4.cell? ⟨w.heap.size, 1, none⟩ = some (.slice none 0 0) := kR4.cell (i := 1) (by simp) undef
      have f0' := kR4.frozen 0
      have f1' := kR4.frozen 1
      subst hA1
      by_cases hz : (takeAllW fv fc (wordsOf (rows (bs s')))).1 = 0
      · have hpl := all_closed hz
        obtain ⟨vE, vO, vs, hB4, hM4⟩ := hA2 hz
        have hPd : Hid (parse (bs s) = ⟨fv, (takeAllW fv fc (wordsOf (rows (bs s')))).2.2.ended, 0, 0⟩) := by
          show _ = _
          rw [hP]; unfold bodyOf; simp only; rw [if_pos hz]
        have hLs := hM4.close (b' := w.heap.size) (by omega)
        obtain ⟨ao, cap, hvE⟩ := hM4.shapeE
        generalize (takeAllW fv fc (wordsOf (rows (bs s')))).2.2 = st at *
        have b2 : W4.cell? ⟨W2.heap.size, 2, none⟩ = some (.slice ao st.ended.length cap) := by rw [← hvE]; exact hB4.cell (i := 2) (by simp) undef
        rw [hz, hpl]
        clear hA2 hA3 hz hpl hP
        go_wp2
        refine bodyPost_ret (res31 rfl ((kR4.set 0 _).set 1 _) rfl rfl rfl) rfl ⟨_, vs, by rw [hPd.out], ?_, (hbz4.setCell (p := ⟨w.heap.size, 0, none⟩) (Nat.le_refl _) _).setCell (p := ⟨w.heap.size, 1, none⟩) (Nat.le_refl _) _⟩
        rw [hPd.out, ← hvE]
        have hcs := ((Chg.refl (· = w.heap.size) W4).setB w.heap.size 0 rfl (.int .i64 (fv : Int))).setB w.heap.size 1 rfl vE
        refine Made.chg' hLs hcs (fun k e e' => ?_) (fun k e e' => ?_)
        · exact own_blk hM4.oe kR4 (by decide) (by rw [e, e'])
        · have := (hM4.close (b' := W2.heap.size + 1) (Nat.le_refl _)).ob_lt e
          omega
      · have hPd : Hid (parse (bs s) = Said.no (takeAllW fv fc (wordsOf (rows (bs s')))).1 (takeAllW fv fc (wordsOf (rows (bs s')))).2.1) := by
          show _ = _
          rw [hP]; unfold bodyOf; simp only; rw [if_neg hz]
        have hz' : ((takeAllW fv fc (wordsOf (rows (bs s')))).1 != 0) = true := by simp [hz]
        clear hA2 hA3 hz hP
        go_wp2
        exact bodyPost_ret (res31 rfl ((kR4.set 0 _).set 1 _) rfl rfl rfl) rfl (read_no hPd.out ((hbz4.setCell (p := ⟨w.heap.size, 0, none⟩) (Nat.le_refl _) _).setCell (p := ⟨w.heap.size, 1, none⟩) (Nat.le_refl _) _))
    · have hP := parse_head h1 he
      have hPd : Hid (parse (bs s) = Said.no (headErr (headOf (bs a))) ((ln : Int) + 1)) := by show _ = _; rw [hP, hln]
      rw [hln] at l1 hL h4
      clear hln h1
      have he' : (headErr (headOf (bs a)) != 0) = true := by simp [he]
      clear hP
      go_wp2_with (go_at_call 87; refine hd.mono ?_; clear hd; rintro e W2 ⟨rfl, hb2⟩; have kL := hL.below' hb2; have kR := k1.below' hb2; have hbz2 := hbz.trans (hb2.mono hbz.size); have m1 : W2.cell? ⟨w.heap.size + 1, 1, none⟩ = some (.int .i64 ((ln : Int) + 1)) := kL.cell (i := 1) (by simp) undef; have r0' : W2.cell? ⟨w.heap.size, 0, none⟩ = some (.int .i64 0) := kR.cell (i := 0) (by simp) undef; have r1' : W2.cell? ⟨w.heap.size, 1, none⟩ = some (.slice none 0 0) := kR.cell (i := 1) (by simp) undef; have f0' := kR.frozen 0; have f1' := kR.frozen 1)
      go_region
      all_goals go_wp2
      all_goals exact bodyPost_ret (res31 rfl ((kR.set 0 _).set 1 _).drew rfl rfl rfl) rfl (read_no hPd.out (((hbz2.setCell (p := ⟨w.heap.size, 0, none⟩) (Nat.le_refl _) _).setCell (p := ⟨w.heap.size, 1, none⟩) (Nat.le_refl _) _).drew))
end Go.Proofs.YtlodenfdcckemaaDoor
