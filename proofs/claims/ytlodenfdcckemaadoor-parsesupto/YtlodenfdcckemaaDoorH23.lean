/-
  The document's Parse.
-/
import Derived.Test.YtlodenfdcckemaaDoorH22
namespace Go.Proofs.YtlodenfdcckemaaDoor
open Go.RowKit Go.Shelf

/-- What lies in memory while the document's answer takes words. -/
structure RF (w : World) (R F base v : Nat) (vall : Value) (xs : List ByteArray) (W : World) (st : St) (vE vO : Value) (vs : List Value) : Prop where
  r : Blk W R 31 [.int .i64 0, .slice none 0 0]
  f : Blk W F 31 [.int .i64 v, vE]
  made : Made W base vE vO vs st
  all : Own W 0 9 vall (strs xs)
  bl : Below w.heap.size w W
  nums : w.heap.size ≤ R ∧ R < F ∧ F < base ∧ base ≤ W.heap.size

namespace RF
variable {w W W' : World} {R F base v : Nat} {vall : Value} {xs : List ByteArray} {st st' : St} {vE vO vE' vO' : Value} {vs vs' : List Value}

theorem below (h : RF w R F base v vall xs W st vE vO vs) (hb : Below W.heap.size W W') : RF w R F base v vall xs W' st vE vO vs :=
  ⟨h.r.below' hb, h.f.below' hb, h.made.below' hb, h.all.below' hb, h.bl.trans (hb.mono h.bl.size), h.nums.1, h.nums.2.1, h.nums.2.2.1, Nat.le_trans h.nums.2.2.2 hb.size⟩

/-- A number more in the open clause. -/
theorem more {x : Int} {g cap : Nat} (h : RF w R F base v vall xs W st vE vO vs) (hown : Own W' base 3 (.slice (some ⟨g, 0, none⟩) (st.opened.length + 1) cap) (ints st.opened ++ [.int .i64 x])) (hC : Chg (fun k => vO.ownBlock = some k) W W') (hat : vO.ownBlock = some g ∨ W.heap.size ≤ g) :
    RF w R F base v vall xs W' ⟨st.ended, st.opened ++ [x]⟩ vE (.slice (some ⟨g, 0, none⟩) (st.opened.length + 1) cap) vs := by
  obtain ⟨M1, B1, -⟩ := h.made.more h.f (by decide) hown hC hat
  have n := h.nums
  refine ⟨h.r.chg hC (fun e => own_blk h.made.oo h.r (by decide) e), B1, M1, h.all.chg hC (fun k e e' => own_ne h.all h.made.oo (by decide) e e'), ?_, n.1, n.2.1, n.2.2.1, Nat.le_trans n.2.2.2 hC.size⟩
  exact h.bl.trans (hC.below h.bl.size (fun k e => by have := (h.made.oo.lt e).1; omega))

/-- The open clause has ended. -/
theorem ends {g cap : Nat} (h : RF w R F base v vall xs W st vE vO vs) (hown : Own W' base 24 (.slice (some ⟨g, 0, none⟩) (vs.length + 1) cap) (vs ++ [vO])) (hC : Chg (fun k => vE.ownBlock = some k) W W') :
    Blk W' F 31 [.int .i64 v, vE] ∧ RF w R F base v vall xs (W'.setCell ⟨F, 1, none⟩ (.slice (some ⟨g, 0, none⟩) (vs.length + 1) cap)) ⟨st.ended ++ [st.opened], []⟩ (.slice (some ⟨g, 0, none⟩) (vs.length + 1) cap) (.slice none 0 0) (vs ++ [vO]) := by
  obtain ⟨M1, B1, -⟩ := h.made.ends h.f (by decide) hown hC
  have n := h.nums
  have hs : Chg (· = F) W' (W'.setCell ⟨F, 1, none⟩ (.slice (some ⟨g, 0, none⟩) (vs.length + 1) cap)) := (Chg.refl (· = F) W').setB F 1 rfl _
  refine ⟨B1, ⟨(h.r.chg hC (fun e => own_blk h.made.oe h.r (by decide) e)).chg hs (by omega), B1.set 1 _, M1.chg hs (fun k hk _ e => by omega), (h.all.chg hC (fun k e e' => own_ne h.all h.made.oe (by decide) e e')).chg hs (fun k e e' => ?_), ?_, n.1, n.2.1, n.2.2.1, ?_⟩⟩
  · exact own_blk (h.all.chg hC (fun k e e' => own_ne h.all h.made.oe (by decide) e e')) B1 (by decide) (by rw [e, e'])
  · exact (h.bl.trans (hC.below h.bl.size (fun k e => by have := (h.made.oe.lt e).1; omega))).trans (hs.below (Nat.le_trans h.bl.size hC.size) (fun k e => by omega))
  · have := hC.size; have := hs.size; omega
end RF

theorem fields_len (cur l : Bytes) : ∀ w ∈ fields cur l, w.length ≤ cur.length + l.length := by
  induction l generalizing cur with
  | nil =>
    intro w hw
    rw [fields_nil] at hw
    split at hw
    · simp at hw
    · simp at hw; rw [hw]; simp
  | cons b l ih =>
    intro w hw
    rw [fields_cons] at hw
    split at hw
    · split at hw
      · have := ih _ w hw; simp at this ⊢; omega
      · rcases List.mem_cons.1 hw with rfl | hw
        · simp
        · have := ih _ w hw; simp at this ⊢; omega
    · have := ih _ w hw; simp at this ⊢; omega

theorem bulk_mem {r : Bytes} {rs : List Bytes} (h : r ∈ rs) : r.length ≤ bulk rs := by
  induction rs with
  | nil => simp at h
  | cons x rs ih =>
    rw [bulk_cons]
    rcases List.mem_cons.1 h with rfl | h
    · omega
    · have := ih h; omega

theorem word_ok {l w : Bytes} (h : w ∈ wordsOf (rows l)) : w ≠ [] ∧ w.length ≤ l.length + 1 := by
  unfold wordsOf at h
  obtain ⟨r, hr, hw⟩ := List.mem_flatMap.1 h
  have hr' := (List.mem_filter.1 hr).1
  refine ⟨fields_ne _ _ w hw, ?_⟩
  have h1 := fields_len _ _ w hw
  have h2 := bulk_mem hr'
  have h3 := bulk_rows l
  simp at h1
  omega

theorem RF.word {w W : World} {R F base v : Nat} {vall : Value} {xs : List ByteArray} {st : St} {vE vO : Value} {vs : List Value} (h : RF w R F base v vall xs W st vE vO vs) {k : Nat} (hk : k < xs.length) : ∃ g cap, vall = .slice (some ⟨g, 0, none⟩) xs.length cap ∧ W.cell? ⟨g, k, none⟩ = some (.string xs[k]) := by
  rcases h.all with ⟨_, h'⟩ | ⟨g, cap, h1, _, _, hr⟩
  · have : xs = [] := by simpa using h'
    subst this; simp at hk
  · refine ⟨g, cap, by rw [h1]; simp, ?_⟩
    rw [hr.cell (i := k) (by simpa using hk) undef]
    simp [hk]

theorem take_snoc' {ws : List Bytes} {k : Nat} (h : k < ws.length) : ws.take (k + 1) = ws.take k ++ [ws[k]] := List.take_succ_eq_append_getElem h

theorem takeAll_at {v c k : Nat} {ws : List Bytes} {st : St} {e : Int} (hk : k < ws.length) (hd : takeW v c 0 ⟨[], []⟩ (ws.take k) = (0, 0, st)) (h1 : (take1 v c st ws[k]).1 = e) (h0 : e ≠ 0) :
    (takeAllW v c ws).1 = e ∧ (takeAllW v c ws).2.1 = (k : Int) + 1 := by
  have hlen : (ws.take k).length = k := by rw [List.length_take]; omega
  have hs : takeW v c (ws.take k).length st [ws[k]] = (e, (k : Int) + 1, st) := by
    unfold takeW
    rw [h1, if_neg h0, hlen]
  have := takeAll_stop (us := ws.drop (k + 1)) hd (by rw [hs]) h0 (a := (k : Int) + 1) (by rw [hs])
  rw [List.singleton_append, ← List.drop_eq_getElem_cons hk, List.take_append_drop] at this
  exact this

set_option maxRecDepth 100000 in
set_option maxHeartbeats 4000000 in
theorem refParse_any (s : ByteArray) (w : World) (hs : s.size ≤ 1100000) :
    Calls Tryd.prog 38 #[.string s] w fun e w' => Read s w e w' := by
  have n1 := blk_new w [.int .i64 0, .slice none 0 0] 31
  have hb0 := alloc_below' w (.cells #[.int .i64 0, .slice none 0 0] 31)
  have z1 : (w.alloc (.cells #[.int .i64 0, .slice none 0 0] 31)).heap.size = w.heap.size + 1 := by simp
  go_enter Tryd.func38, Tryd.ntmps38
  go_wp2
  generalize w.alloc (.cells #[.int .i64 0, .slice none 0 0] 31) = W0 at *
  go_loopw [0, 5, 6] (fun vt va vl wr => ∃ (s' l : ByteArray) (j : Nat), vt = .string s' ∧ va = .int .i64 ((j : Int) + 1) ∧ vl = .string l ∧ s'.size ≤ s.size ∧ j + s'.size ≤ s.size ∧ Hid (Passed s s' j) ∧ Below W0.heap.size W0 wr) (fun vt _ _ _ => strLen vt)
  case atStart => exact ⟨s, ⟨#[]⟩, 0, rfl, rfl, rfl, Nat.le_refl _, by omega, ⟨[], rfl, by simp, rfl⟩, Below.refl _ _⟩
  case round =>
    obtain ⟨s', l, j, rfl, rfl, rfl, hle, hj, hp, hb⟩ := hrel
    have k1 := n1.below' hb
    have hbz : Below w.heap.size w wr := hb0.trans (hb.mono hb0.size)
    have r0 : wr.cell? ⟨w.heap.size, 0, none⟩ = some (.int .i64 0) := k1.cell (i := 0) (by simp) undef
    have r1 : wr.cell? ⟨w.heap.size, 1, none⟩ = some (.slice none 0 0) := k1.cell (i := 1) (by simp) undef
    have f0 := k1.frozen 0
    have f1 := k1.frozen 1
    have hemp := empty_bs s'
    by_cases hz : s'.size = 0
    · have he : s'.toList.isEmpty = true := by rw [hemp]; exact decide_eq_true hz
      have hbs : bs s' = [] := List.length_eq_zero_iff.1 (by rw [← size_bs]; exact hz)
      obtain ⟨h1, h2⟩ := hp.out.done hbs
      have hPd : Hid (parse (bs s) = Said.no 1 ((j : Int) + 1)) := by show _ = _; rw [parse_none h1, h2]
      clear hemp hbs h1 h2
      go_wp2
      exact bodyPost_ret (res31 rfl ((k1.set 0 _).set 1 _) rfl rfl rfl) rfl (read_no hPd.out ((hbz.setCell (p := ⟨w.heap.size, 0, none⟩) (Nat.le_refl _) _).setCell (p := ⟨w.heap.size, 1, none⟩) (Nat.le_refl _) _))
    · have he : s'.toList.isEmpty = false := by rw [hemp]; exact decide_eq_false hz
      have hne : bs s' ≠ [] := fun e => hz (by rw [size_bs, e]; rfl)
      have hrl : (row (bs s')).length ≤ s'.size := by rw [size_bs]; exact row_length _
      have hre : (rest (bs s')).length < s'.size := by rw [size_bs]; exact rest_length _ hne
      clear hemp
      have hln := line_any s' (by omega) wr
      go_wp2_with fail
      refine hln.mono ?_
      clear hln r0 r1 f0 f1
      rintro e w1 ⟨⟨a, b, rfl, ha, hbb⟩, hb1⟩
      have k2 := k1.below' hb1
      have hbw := hbz.trans (hb1.mono hbz.size)
      have hb2 := hb.trans (hb1.mono hb.size)
      have hasz : a.size ≤ s'.size := by rw [size_bs, ha]; exact hrl
      have hbsz : b.size < s'.size := by rw [size_bs, hbb]; exact hre
      have hHit : remark (bs a) = false → (rows (bs s)).dropWhile remark = bs a :: rows (bs b) ∧ ((rows (bs s)).takeWhile remark).length = j := by
        intro h
        obtain ⟨e1, e2⟩ := hp.out.hit hne (by rw [← ha]; exact h)
        rw [ha, hbb]
        exact ⟨e1, e2⟩
      have hStep : remark (bs a) = true → Passed s b (j + 1) := by
        intro h
        have := hp.out.step hne (by rw [← ha]; exact h)
        have e : (⟨(rest (bs s')).toArray⟩ : ByteArray) = b := bs_ext hbb.symm
        rwa [e] at this
      clear ha hbb hrl hre hne hp hb hbz k1
      have r0 : w1.cell? ⟨w.heap.size, 0, none⟩ = some (.int .i64 0) := k2.cell (i := 0) (by simp) undef
      have r1 : w1.cell? ⟨w.heap.size, 1, none⟩ = some (.slice none 0 0) := k2.cell (i := 1) (by simp) undef
      have f0 := k2.frozen 0
      have f1 := k2.frozen 1
      have hea := empty_bs a
      have hrh := refHead_any a (by omega) w1
      by_cases ha0 : a.size = 0
      · have hea' : a.toList.isEmpty = true := by rw [hea]; exact decide_eq_true ha0
        have hab : bs a = [] := List.length_eq_zero_iff.1 (by rw [← size_bs]; exact ha0)
        obtain ⟨e1, e2⟩ := hHit (by rw [hab]; rfl)
        have hno : headOf (bs a) = none := by rw [hab]; rfl
        have hPd : Hid (parse (bs s) = Said.no 1 ((j : Int) + 1)) := by show _ = _; rw [parse_head e1 (by rw [hno]; decide), hno, e2]; rfl
        rw [(headV_none hno).1, (headV_none hno).2] at hrh
        clear hea hab hHit hStep e1 e2 hno
        go_wp2_with (go_at_call 63; refine hrh.mono ?_; rintro e w2 ⟨rfl, rfl⟩)
        exact bodyPost_ret (res31 rfl ((k2.set 0 _).set 1 _) rfl rfl rfl) rfl (read_no hPd.out ((hbw.setCell (p := ⟨w.heap.size, 0, none⟩) (Nat.le_refl _) _).setCell (p := ⟨w.heap.size, 1, none⟩) (Nat.le_refl _) _))
      · have hea' : a.toList.isEmpty = false := by rw [hea]; exact decide_eq_false ha0
        have hat0 := bs_at a 0 (by omega)
        generalize hc0 : a[0]'(by omega) = c0 at hat0
        have hrm : remark (bs a) = (c0 == 99) := by
          cases hh : bs a with
          | nil => rw [hh] at hat0; simp at hat0
          | cons x t => rw [hh] at hat0; simp at hat0; rw [hat0]; rfl
        have hbe := byte_eq c0 99 (by decide)
        by_cases h99 : c0 = 99
        · have hx0 : ((c0.toNat : Int) != 99) = false := by rw [h99]; rfl
          have hst := hStep (by rw [hrm, h99]; rfl)
          clear hea hat0 hrm hbe hHit hStep
          go_wp2
          go_roundw
          case rel => exact ⟨b, a, j + 1, rfl, by go_num, rfl, by omega, by omega, hst, hb2⟩
          case measure => simp [strLen]; omega
        · have hx0 : ((c0.toNat : Int) != 99) = true := by rw [bne, show ((99 : Int)) = ((99 : Nat) : Int) from rfl, hbe]; simpa using h99
          obtain ⟨e1, e2⟩ := hHit (by rw [hrm]; simpa using h99)
          clear hea hat0 hrm hbe hHit hStep
          cases hho : headOf (bs a) with
          | none =>
            have hPd : Hid (parse (bs s) = Said.no 1 ((j : Int) + 1)) := by show _ = _; rw [parse_head e1 (by rw [hho]; decide), hho, e2]; rfl
            rw [(headV_none hho).1, (headV_none hho).2] at hrh
            clear e1 e2 hho
            go_wp2_with (go_at_call 63; refine hrh.mono ?_; rintro e w2 ⟨rfl, rfl⟩)
            exact bodyPost_ret (res31 rfl ((k2.set 0 _).set 1 _) rfl rfl rfl) rfl (read_no hPd.out ((hbw.setCell (p := ⟨w.heap.size, 0, none⟩) (Nat.le_refl _) _).setCell (p := ⟨w.heap.size, 1, none⟩) (Nat.le_refl _) _))
          | some p =>
            obtain ⟨v, c⟩ := p
            obtain ⟨g1, g2, g3⟩ := headX_some hho
            rw [g2, g3] at hrh
            have hv6 : v ≤ 999999 ∧ c ≤ 999999 := by
              unfold headOf at hho
              split at hho
              · cases hho
              · split at hho
                · split at hho
                  · rename_i x y hx hy
                    cases hho
                    exact ⟨figs_le hx, figs_le hy⟩
                  · cases hho
                · cases hho
            by_cases hv20 : 20 < v
            · have hPd : Hid (parse (bs s) = Said.no 3 ((j : Int) + 1)) := by show _ = _; rw [parse_head e1 (by rw [g1, if_pos hv20]; decide), g1, if_pos hv20, e2]
              clear e1 e2 hho g1 g2 g3
              go_wp2_with (go_at_call 63; refine hrh.mono ?_; rintro e w2 ⟨rfl, rfl⟩)
              exact bodyPost_ret (res31 rfl ((k2.set 0 _).set 1 _) rfl rfl rfl) rfl (read_no hPd.out ((hbw.setCell (p := ⟨w.heap.size, 0, none⟩) (Nat.le_refl _) _).setCell (p := ⟨w.heap.size, 1, none⟩) (Nat.le_refl _) _))
            · by_cases hc200 : 200 < c
              · have hPd : Hid (parse (bs s) = Said.no 4 ((j : Int) + 1)) := by show _ = _; rw [parse_head e1 (by rw [g1, if_neg hv20, if_pos hc200]; decide), g1, if_neg hv20, if_pos hc200, e2]
                clear e1 e2 hho g1 g2 g3
                go_wp2_with (go_at_call 63; refine hrh.mono ?_; rintro e w2 ⟨rfl, rfl⟩)
                exact bodyPost_ret (res31 rfl ((k2.set 0 _).set 1 _) rfl rfl rfl) rfl (read_no hPd.out ((hbw.setCell (p := ⟨w.heap.size, 0, none⟩) (Nat.le_refl _) _).setCell (p := ⟨w.heap.size, 1, none⟩) (Nat.le_refl _) _))
              · have hP : Hid (parse (bs s) = bodyOf v c (rows (bs b))) := by show _ = _; exact parse_body e1 (by rw [g1, if_neg hv20, if_neg hc200]) hho
                clear e1 e2 hho g1 g2 g3
                go_wp2_with (first
                  | (go_at_call 63; refine hrh.mono ?_; clear hrh; rintro e w2 ⟨rfl, rfl⟩)
                  | (go_at_call 64; fail))
                have nF := blk_new w2 [.int .i64 v, .slice none 0 0] 31
                have al := alloc_below' w2 (.cells #[.int .i64 v, .slice none 0 0] 31)
                have zz : (w2.alloc (.cells #[.int .i64 v, .slice none 0 0] 31)).heap.size = w2.heap.size + 1 := by simp
                generalize w2.alloc (.cells #[.int .i64 v, .slice none 0 0] 31) = W3 at *
                refine (words_any b W3 (by omega)).mono ?_
                rintro e W4 ⟨va, xs, rfl, hOw, hxs, hb4⟩
                have hR4 := (k2.below' al).below' hb4
                have hbz4 := (hbw.trans (al.mono hbw.size)).trans (hb4.mono (Nat.le_trans hbw.size al.size))
                have hRF : RF w w.heap.size w2.heap.size W4.heap.size v va xs W4 ⟨[], []⟩ (.slice none 0 0) (.slice none 0 0) [] :=
                  ⟨hR4, nF.below' hb4, Made.start _ _, hOw.down (Nat.zero_le _), hbz4, Nat.le_refl _, by have := k2.lt; exact this, by have := hb4.size; omega, Nat.le_refl _⟩
                obtain ⟨ao, cap, hva⟩ := hOw.shape
                rw [List.length_map] at hva
                have hxl : xs.length ≤ 1100001 := by
                  have h1 := words_count (rows (bs b))
                  have h2 := bulk_rows (bs b)
                  rw [← hxs, List.length_map] at h1
                  rw [← size_bs] at h2
                  omega
                have HX : Hid (xs.map bs = wordsOf (rows (bs b))) := hxs
                have HT : Hid (parse (bs s) = (if (takeAllW v c (xs.map bs)).1 = 0 then ⟨v, (takeAllW v c (xs.map bs)).2.2.ended, 0, 0⟩ else Said.no (takeAllW v c (xs.map bs)).1 (takeAllW v c (xs.map bs)).2.1)) := by
                  show _ = _
                  rw [hP.out]; unfold bodyOf; rw [HX.out]
                clear hxs hOw hR4 hbz4 hb4 nF al zz k2 hbw hb2 hb1 r0 r1 f0 f1 hP
                subst hva
                go_wp2
                go_loopw [10, 12] (fun vo vi wr => ∃ (k : Nat) (st : St) (vE : Value) (vs : List Value), vi = .int .i64 k ∧ k ≤ xs.length ∧ RF w w.heap.size w2.heap.size W4.heap.size v (.slice ao xs.length cap) xs wr st vE vo vs ∧ Hid (takeW v c 0 ⟨[], []⟩ ((xs.map bs).take k) = (0, 0, st))) (fun _ vi _ => xs.length - (intOf vi).toNat)
                case atStart => exact ⟨0, ⟨[], []⟩, _, [], rfl, Nat.zero_le _, hRF, by show _ = _; rfl⟩
                case round =>
                  clear hRF
                  obtain ⟨k, st, vE, vs, rfl, hk, hR, hT⟩ := hrel
                  have r0 : wr.cell? ⟨w.heap.size, 0, none⟩ = some (.int .i64 0) := hR.r.cell (i := 0) (by simp) undef
                  have r1 : wr.cell? ⟨w.heap.size, 1, none⟩ = some (.slice none 0 0) := hR.r.cell (i := 1) (by simp) undef
                  have f0 := hR.r.frozen 0
                  have f1 := hR.r.frozen 1
                  have hFl := hR.f.lt
                  have hnum := hR.nums
                  obtain ⟨ae, ce, hvE⟩ := hR.made.shapeE
                  obtain ⟨a2, co, hvO⟩ := hR.made.shapeO
                  have hlen := takeW_len v c 0 ⟨[], []⟩ ((xs.map bs).take k) (by simp) (by simp) (by simp)
                  rw [hT.out] at hlen
                  dsimp only at hlen
                  have c1 : wr.cell? ⟨w2.heap.size, 1, none⟩ = some (.slice ae st.ended.length ce) := by rw [← hvE]; exact hR.f.cell (i := 1) (by simp) undef
                  subst hvO
                  by_cases hlt : k < xs.length
                  · obtain ⟨g, cap2, hva, hcw⟩ := hR.word hlt
                    simp only [Value.slice.injEq, true_and] at hva
                    obtain ⟨rfl, rfl⟩ := hva
                    have hkw : k < (xs.map bs).length := by rw [List.length_map]; exact hlt
                    have hxk : (xs.map bs)[k] = bs xs[k] := by simp
                    have hwok := word_ok (l := bs b) (w := bs xs[k]) (by rw [← HX.out, ← hxk]; exact List.getElem_mem _)
                    have hxs : xs[k].size ≤ 4000000 := by
                      have := hwok.2
                      rw [← size_bs, ← size_bs] at this
                      omega
                    have call0 := refNumber_any xs[k] hxs hwok.1 wr
                    have hNo : ∀ e : Int, (take1 v c st (bs xs[k])).1 = e → e ≠ 0 → Hid (parse (bs s) = Said.no e ((k : Int) + 1)) := by
                      intro e h1 h0
                      obtain ⟨t1, t2⟩ := takeAll_at hkw hT.out (by rw [hxk]; exact h1) h0
                      show _ = _
                      rw [HT.out, t1, t2, if_neg h0]
                    have hGo : ∀ st' : St, take1 v c st (bs xs[k]) = (0, st') → Hid (takeW v c 0 ⟨[], []⟩ ((xs.map bs).take (k + 1)) = (0, 0, st')) := by
                      intro st' h
                      show _ = _
                      rw [take_snoc' hkw, takeW_snoc _ hT.out, hxk, h]
                      rfl
                    have htk : ∀ n, num (bs xs[k]) = some n → take1 v c st (bs xs[k]) = if n.natAbs > v then (6, st) else if st.ended.length = c then (4, st) else if n = 0 then (0, ⟨st.ended ++ [st.opened], []⟩) else if st.opened.length = 20 then (5, st) else (0, ⟨st.ended, st.opened ++ [n]⟩) := by
                      intro n hn
                      unfold take1; rw [hn]
                    have htn : num (bs xs[k]) = none → (take1 v c st (bs xs[k])).1 = 2 := by
                      intro hn
                      unfold take1; rw [hn]
                    generalize hxx : xs[k] = x at *
                    clear hwok hxk hkw
                    cases hn : num (bs x) with
                    | none =>
                      have hPd : Hid (parse (bs s) = Said.no 2 ((k : Int) + 1)) := hNo 2 (htn hn) (by decide)
                      rw [hn] at call0
                      clear hNo hGo htk htn hn
                      go_wp2_with (go_at_call 65; refine call0.mono ?_; rintro e w5 ⟨⟨n, m, rfl, -⟩, rfl⟩)
                      exact bodyPost_ret (res31 rfl ((hR.r.set 0 _).set 1 _) rfl rfl rfl) rfl (read_no hPd.out ((hR.bl.setCell (p := ⟨w.heap.size, 0, none⟩) (Nat.le_refl _) _).setCell (p := ⟨w.heap.size, 1, none⟩) (Nat.le_refl _) _))
                    | some n =>
                      have call : Calls Tryd.prog 65 #[.string x] wr fun e w' => e = .returned (.tuple #[.int .i64 n, .int .i64 n.natAbs, .bool true]) ∧ w' = wr := by
                        refine call0.mono ?_
                        rintro e w5 ⟨⟨n', m', rfl, h⟩, rfl⟩
                        obtain ⟨rfl, rfl⟩ := h n hn
                        rw [hn]
                        exact ⟨rfl, rfl⟩
                      have ht := htk n hn
                      have hn6 := num_le hn
                      clear call0 htk htn hn
                      by_cases h6 : v < n.natAbs
                      · have hPd : Hid (parse (bs s) = Said.no 6 ((k : Int) + 1)) := hNo 6 (by rw [ht, if_pos h6]) (by decide)
                        clear hNo hGo ht
                        go_wp2_with (go_at_call 65; refine call.mono ?_; rintro e w5 ⟨rfl, rfl⟩)
                        exact bodyPost_ret (res31 rfl ((hR.r.set 0 _).set 1 _) rfl rfl rfl) rfl (read_no hPd.out ((hR.bl.setCell (p := ⟨w.heap.size, 0, none⟩) (Nat.le_refl _) _).setCell (p := ⟨w.heap.size, 1, none⟩) (Nat.le_refl _) _))
                      · rw [if_neg h6] at ht
                        by_cases h4 : st.ended.length = c
                        · have hPd : Hid (parse (bs s) = Said.no 4 ((k : Int) + 1)) := hNo 4 (by rw [ht, if_pos h4]) (by decide)
                          have h4' : ((st.ended.length : Int) == (c : Int)) = true := by simp [h4]
                          clear hNo hGo ht h4
                          go_wp2_with (go_at_call 65; refine call.mono ?_; rintro e w5 ⟨rfl, rfl⟩)
                          exact bodyPost_ret (res31 rfl ((hR.r.set 0 _).set 1 _) rfl rfl rfl) rfl (read_no hPd.out ((hR.bl.setCell (p := ⟨w.heap.size, 0, none⟩) (Nat.le_refl _) _).setCell (p := ⟨w.heap.size, 1, none⟩) (Nat.le_refl _) _))
                        · rw [if_neg h4] at ht
                          have h4' : ((st.ended.length : Int) == (c : Int)) = false := by simp; omega
                          by_cases h0 : n = 0
                          · rw [if_pos h0] at ht
                            have hgo := hGo _ ht
                            have h0' : (n != 0) = false := by simp [h0]
                            have hvl : vs.length = st.ended.length := hR.made.len
                            have g0 := hR.f.frozen 1
                            clear hNo hGo ht h4 h0
                            go_wp2_with (first
                              | (go_at_call 65; refine call.mono ?_; clear call; rintro e w5 ⟨rfl, rfl⟩)
                              | (at_builtin; refine wpList_append_new (.tmp 113) (.tmp 115) 23 24 (.slice none 0 0) 24 Tryd.underlying23 Tryd.info24 rfl W4.heap.size w5.heap.size vE vs [.slice a2 st.opened.length co] 1 st.ended.length hvl rfl (by decide) (by rw [hvE]; rfl) (by rfl) (hR.made.oe.alloc _) (blk_new w5 [.slice a2 st.opened.length co] 24) (by intro u hu; simp at hu; rw [hu]; rfl) (by unfold maxLen; omega) (by omega) (by have := hnum.2.2.2; simp; omega) ?_; intro g6 c6 w6 hown hgr hat hlt6; obtain ⟨B6, R6⟩ := hR.ends (by rw [hvl]; exact hown) ((Chg.of_below (alloc_below' _ _)).trans (Chg.of_grown hgr (fun k e => e) (fun k e o ho => (hR.made.oe.alloc _).cells e o ho))); have d1 : w6.cell? ⟨w2.heap.size, 1, none⟩ = some vE := B6.cell (i := 1) (by simp) undef; have d2 := B6.frozen 1))
                            rw [hvl] at R6
                            go_roundw
                            case rel => exact ⟨k + 1, _, _, _, by go_num, by omega, R6, hgo⟩
                            case measure => simp [intOf]; omega
                          · rw [if_neg h0] at ht
                            have h0' : (n != 0) = true := by simp [h0]
                            by_cases h5 : st.opened.length = 20
                            · have hPd : Hid (parse (bs s) = Said.no 5 ((k : Int) + 1)) := hNo 5 (by rw [ht, if_pos h5]) (by decide)
                              have h5' : ((st.opened.length : Int) == 20) = true := by simp [h5]
                              clear hNo hGo ht h5 h4 h0
                              go_wp2_with (go_at_call 65; refine call.mono ?_; rintro e w5 ⟨rfl, rfl⟩)
                              exact bodyPost_ret (res31 rfl ((hR.r.set 0 _).set 1 _) rfl rfl rfl) rfl (read_no hPd.out ((hR.bl.setCell (p := ⟨w.heap.size, 0, none⟩) (Nat.le_refl _) _).setCell (p := ⟨w.heap.size, 1, none⟩) (Nat.le_refl _) _))
                            · rw [if_neg h5] at ht
                              have hgo := hGo _ ht
                              have h5' : ((st.opened.length : Int) == 20) = false := by simp; omega
                              clear hNo hGo ht h5 h4 h0
                              go_wp2_with (first
                                | (go_at_call 65; refine call.mono ?_; clear call; rintro e w5 ⟨rfl, rfl⟩)
                                | (at_builtin; refine wpList_append_new (.tmp 108) (.tmp 110) 24 3 (.int .i64 0) 8 Tryd.underlying24 Tryd.info3 rfl W4.heap.size w5.heap.size (.slice a2 st.opened.length co) (ints st.opened) [.int .i64 n] 1 st.opened.length (by simp) rfl (by decide) (by rfl) (by rfl) (hR.made.oo.alloc _) (blk_new w5 [.int .i64 n] 3) (by intro u hu; simp at hu; rw [hu]; rfl) (by unfold maxLen; omega) (by omega) (by have := hnum.2.2.2; simp; omega) ?_; intro g6 c6 w6 hown hgr hat hlt6; have R6 := hR.more hown ((Chg.of_below (alloc_below' _ _)).trans (Chg.of_grown hgr (fun k e => e) (fun k e o ho => (hR.made.oo.alloc _).cells e o ho))) (hat.imp (fun e => e) (fun e => by rw [e]; exact (alloc_below' _ _).size))))
                              go_roundw
                              case rel => exact ⟨k + 1, _, _, _, by go_num, by omega, R6, hgo⟩
                              case measure => simp [intOf]; omega
                  · have hke : k = xs.length := by omega
                    have hkl : (xs.map bs).take k = xs.map bs := by rw [List.take_of_length_le (by rw [List.length_map]; omega)]
                    rw [hkl] at hT
                    have hLk : takeAllW v c (xs.map bs) = if lacks c st = 0 then (0, 0, st) else (lacks c st, ((xs.length : Nat) : Int) + 1, st) := by
                      unfold takeAllW
                      simp only
                      rw [hT.out]
                      simp
                    clear hkl hT
                    have hE0 : lacks c st = if 0 < st.opened.length then 2 else if st.ended.length < c then 4 else 0 := rfl
                    by_cases h2 : 0 < st.opened.length
                    · rw [if_pos h2] at hE0
                      have hPd : Hid (parse (bs s) = Said.no 2 (((xs.length : Nat) : Int) + 1)) := by show _ = _; rw [HT.out, hLk, hE0]; rfl
                      clear hLk hE0
                      go_wp2
                      exact bodyPost_ret (res31 rfl ((hR.r.set 0 _).set 1 _) rfl rfl rfl) rfl (read_no hPd.out ((hR.bl.setCell (p := ⟨w.heap.size, 0, none⟩) (Nat.le_refl _) _).setCell (p := ⟨w.heap.size, 1, none⟩) (Nat.le_refl _) _))
                    · rw [if_neg h2] at hE0
                      by_cases h4 : st.ended.length < c
                      · rw [if_pos h4] at hE0
                        have hPd : Hid (parse (bs s) = Said.no 4 (((xs.length : Nat) : Int) + 1)) := by show _ = _; rw [HT.out, hLk, hE0]; rfl
                        clear hLk hE0
                        go_wp2
                        exact bodyPost_ret (res31 rfl ((hR.r.set 0 _).set 1 _) rfl rfl rfl) rfl (read_no hPd.out ((hR.bl.setCell (p := ⟨w.heap.size, 0, none⟩) (Nat.le_refl _) _).setCell (p := ⟨w.heap.size, 1, none⟩) (Nat.le_refl _) _))
                      · rw [if_neg h4] at hE0
                        have hPd : Hid (parse (bs s) = ⟨v, st.ended, 0, 0⟩) := by show _ = _; rw [HT.out, hLk, hE0]; rfl
                        have c0 : wr.cell? ⟨w2.heap.size, 0, none⟩ = some (.int .i64 v) := hR.f.cell (i := 0) (by simp) undef
                        clear hLk hE0
                        go_wp2
                        refine bodyPost_ret (res31 rfl ((hR.r.set 0 _).set 1 _) rfl rfl rfl) rfl ⟨_, vs, by rw [hPd.out], ?_, (hR.bl.setCell (p := ⟨w.heap.size, 0, none⟩) (Nat.le_refl _) _).setCell (p := ⟨w.heap.size, 1, none⟩) (Nat.le_refl _) _⟩
                        rw [hPd.out, ← hvE]
                        have hLs : Lists wr w.heap.size vE vs st.ended := hR.made.close (by omega)
                        have hcs := ((Chg.refl (· = w.heap.size) wr).setB w.heap.size 0 rfl (.int .i64 (v : Int))).setB w.heap.size 1 rfl vE
                        refine Made.chg' hLs hcs (fun k e e' => ?_) (fun k e e' => ?_)
                        · exact own_blk hR.made.oe hR.r (by decide) (by rw [e, e'])
                        · have := (hR.made.close (b' := W4.heap.size) (Nat.le_refl _)).ob_lt e
                          omega
end Go.Proofs.YtlodenfdcckemaaDoor
