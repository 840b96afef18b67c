/-
  Parse, once: the program's answer and the document's are the same, and the caller's.
-/
import Derived.Test.YtlodenfdcckemaaDoorH7
import Derived.Test.YtlodenfdcckemaaDoorH8
import Derived.Test.YtlodenfdcckemaaDoorH23
import Derived.Test.YtlodenfdcckemaaDoorH25
namespace Go.Proofs.YtlodenfdcckemaaDoor
open Go.RowKit

theorem takeAllW_st (v c : Nat) (ws : List Bytes) : (takeAllW v c ws).2.2 = (takeW v c 0 ⟨[], []⟩ ws).2.2 := by
  unfold takeAllW
  simp only
  split
  · split <;> rfl
  · rfl

theorem parse_small (l : Bytes) : (parse l).clauses.length ≤ 200 ∧ ∀ c ∈ (parse l).clauses, c.length ≤ 20 := by
  have no : ∀ e p, (Said.no e p).clauses.length ≤ 200 ∧ ∀ c ∈ (Said.no e p).clauses, c.length ≤ 20 := fun e p => ⟨by simp [Said.no], by simp [Said.no]⟩
  unfold parse
  split
  · exact no _ _
  · split
    · rename_i h0
      split
      · rename_i v c hh
        rw [hh] at h0
        have hc : c ≤ 200 := by
          unfold headErr at h0
          simp only at h0
          split at h0
          · simp at h0
          · split at h0
            · simp at h0
            · omega
        unfold bodyOf
        simp only
        split
        · have := takeW_len v c 0 ⟨[], []⟩ (wordsOf ‹_›) (by simp) (by simp) (by simp)
          rw [takeAllW_st]
          exact ⟨by have := this.2.1; simp only; omega, this.2.2⟩
        · exact no _ _
      · exact no _ _
    · exact no _ _

set_option maxHeartbeats 2000000 in
theorem parsed_any (s : ByteArray) (m : Int) (O : Nat) (vl vm vo : Value) (E : List (Value × Int)) (D : List Value) (w : World) (hs : s.size ≤ 1100000) (hT : Lib.Utf8Tabs 2 3 w) (hm : w.cell? ⟨1, 0, none⟩ = some (.int .i64 m)) (hBk : Bk w O vl vm vo E D) (hE : E.length ≤ 4000) (hD : D.length ≤ 80) :
    Calls Tryd.prog 10 #[.string s, .pointer (some ⟨O, 0, none⟩)] w fun e w' => e = .returned (.bool true) ∧ ∃ vl' vm' vo' E' D', Bk w' O vl' vm' vo' E' D' ∧ E'.length ≤ E.length + 800 ∧ D'.length = D.length + 4 ∧
      (∀ k, Foot O vl' vm' vo' E' D' k → Foot O vl vm vo E D k ∨ w.heap.size ≤ k) ∧ Chg (Foot O vl vm vo E D) w w' := by
  have call5 := parse_any s m w hs hT hm
  have hsm := parse_small (bs s)
  have hcall6 := fun w => refParse_any s w hs
  have hfl : ∀ k, Foot O vl vm vo E D k → k < w.heap.size := fun k hk => hBk.foot_lt hk
  have hOl := hBk.head.lt
  clear hT hm
  go_enter Tryd.func10, Tryd.ntmps10
  go_wp2_with fail
  refine call5.mono ?_
  clear call5
  rintro e w1 ⟨vC, vs, rfl, L1, b1⟩
  obtain ⟨ca, cc, hvC⟩ := L1.oe.shape
  subst hvC
  go_wp2_with fail
  have n1 := blk_new w1 [.int .i64 (parse (bs s)).vars, .slice ca vs.length cc] 31
  have a1 := alloc_below w1 (.cells #[.int .i64 (parse (bs s)).vars, .slice ca vs.length cc] 31)
  have z1 := alloc_size w1 (.cells #[.int .i64 (parse (bs s)).vars, .slice ca vs.length cc] 31)
  have s1 := b1.size
  generalize hF1 : w1.heap.size = F1 at *
  generalize w1.alloc (.cells #[.int .i64 (parse (bs s)).vars, .slice ca vs.length cc] 31) = W1 at *
  have L2 : Lists W1 w.heap.size (.slice ca vs.length cc) vs (parse (bs s)).clauses := Made.below' L1 (by rw [hF1]; exact a1)
  have B1 : Below w.heap.size w W1 := b1.trans (a1.mono s1)
  clear L1 b1 a1
  refine (hcall6 W1).mono ?_
  clear hcall6
  rintro e w2 ⟨vD, us, rfl, M2, b2⟩
  obtain ⟨da, dc, hvD⟩ := M2.oe.shape
  subst hvD
  have s2 := b2.size
  have n2 := n1.below' b2
  have L3 : Lists w2 w.heap.size (.slice ca vs.length cc) vs (parse (bs s)).clauses := Made.below' L2 b2
  have B2 : Below w.heap.size w w2 := B1.trans (b2.mono B1.size)
  have c1 : w2.cell? ⟨F1, 1, none⟩ = some (.slice ca vs.length cc) := n2.cell (i := 1) (by simp) undef
  have l1 := n2.lt
  clear n1 L2
  go_wp2_with fail
  have n3 := blk_new w2 [.int .i64 (parse (bs s)).vars, .slice da us.length dc] 31
  have a2 := alloc_below w2 (.cells #[.int .i64 (parse (bs s)).vars, .slice da us.length dc] 31)
  have z2 := alloc_size w2 (.cells #[.int .i64 (parse (bs s)).vars, .slice da us.length dc] 31)
  generalize hF2 : w2.heap.size = F2 at *
  generalize w2.alloc (.cells #[.int .i64 (parse (bs s)).vars, .slice da us.length dc] 31) = W2 at *
  have a2' : Below w2.heap.size w2 W2 := by rw [hF2]; exact a2
  have L4 : Lists W2 w.heap.size (.slice ca vs.length cc) vs (parse (bs s)).clauses := Made.below' L3 a2'
  have M4 : Lists W2 W1.heap.size (.slice da us.length dc) us (parse (bs s)).clauses := Made.below' M2 a2'
  have n4 := n2.below' a2'
  have B3 : Below w.heap.size w W2 := B2.trans (a2'.mono B2.size)
  clear c1 l1 L3 M2 n2 a2 a2' B1 B2
  have e1 : W2.cell? ⟨F1, 1, none⟩ = some (.slice ca vs.length cc) := n4.cell (i := 1) (by simp) undef
  refine (sameLists_any _ _ _ _ _ _ _ _ _ _ _ W2 L4 M4 (by omega) (fun c hc => by have := hsm.2 c hc; omega)).mono ?_
  rintro e W3 ⟨rfl, nd, rfl⟩
  go_wp2_with fail
  have L5 : Lists (W2.drewN nd) w.heap.size (.slice ca vs.length cc) vs (parse (bs s)).clauses := Made.drewN L4 nd
  have n5 := n4.drewN nd
  have n6 := n3.drewN nd
  have B4 : Below w.heap.size w (W2.drewN nd) := below_drewN B3 nd
  clear L4 M4 n4 n3 B3 e1
  generalize W2.drewN nd = W3 at *
  have hBk3 := hBk.below' B4
  have vlow : ∀ k, ((Value.slice ca vs.length cc).ownBlock = some k ∨ ∃ y ∈ vs, y.ownBlock = some k) → w.heap.size ≤ k := by
    rintro k (h | ⟨y, hy, h⟩)
    · exact (L5.oe.lt h).1
    · exact (L5.ob_lt ⟨y, by simp [hy], h⟩).1
  have hnd : (vs.filterMap Value.ownBlock).Nodup := by
    have := L5.nd
    rw [List.filterMap_append, List.nodup_append] at this
    exact this.1
  refine (takeLists_any O vl vm vo (.slice ca vs.length cc) E D vs (parse (bs s)).clauses W3 hBk3 (by omega) (by omega) (L5.oe.down (Nat.zero_le _)) L5.len (fun i hi => (L5.ls i hi).down (Nat.zero_le _)) hnd (by omega) (fun c hc => by have := hsm.2 c hc; omega)
    (fun k h hf => by have := vlow k h; have := hfl k hf; omega)).mono ?_
  rintro e W4 ⟨rfl, vl', vm', vo', E', D', hBk4, hE4, hD4, hF4, hC4⟩
  have q1 : Blk W4 F1 31 [.int .i64 (parse (bs s)).vars, .slice ca vs.length cc] := n5.chg hC4 (by
    rintro (h | h | ⟨y, hy, h⟩)
    · have := hfl F1 h; omega
    · exact own_blk L5.oe n5 (by decide) h
    · exact L5.ob_ne n5 (by decide) ⟨y, by simp [hy], h⟩)
  have q2 : Blk W4 F2 31 [.int .i64 (parse (bs s)).vars, .slice da us.length dc] := n6.chg hC4 (by
    rintro (h | h | ⟨y, hy, h⟩)
    · have := hfl F2 h; omega
    · exact own_blk L5.oe n6 (by decide) h
    · exact L5.ob_ne n6 (by decide) ⟨y, by simp [hy], h⟩)
  go_wp2_with fail
  refine (booksKept_any O vl' vm' vo' E' D' W4 hBk4 (by omega) (by omega)).mono ?_
  rintro e W5 ⟨rfl, b5⟩
  have c1 : W5.cell? ⟨F1, 0, none⟩ = some (.int .i64 (parse (bs s)).vars) := (q1.below' b5).cell (i := 0) (by simp) undef
  have c2 : W5.cell? ⟨F2, 0, none⟩ = some (.int .i64 (parse (bs s)).vars) := (q2.below' b5).cell (i := 0) (by simp) undef
  have hFin : Bk W5 O vl' vm' vo' E' D' ∧ E'.length ≤ E.length + 800 ∧ D'.length = D.length + 4 ∧ (∀ k, Foot O vl' vm' vo' E' D' k → Foot O vl vm vo E D k ∨ w.heap.size ≤ k) ∧ Chg (Foot O vl vm vo E D) w W5 := by
    have s4 := B4.size
    refine ⟨hBk4.below' b5, by omega, hD4, fun k h => ?_, ((Chg.of_below (S := Foot O vl vm vo E D) B4).trans' hC4 (fun i hi h => ?_)).trans (Chg.of_below b5)⟩
    · rcases hF4 k h with h | h | h
      · exact Or.inl h
      · exact Or.inr (vlow k h)
      · exact Or.inr (by omega)
    · rcases h with h | h
      · exact h
      · have := vlow i h
        omega
  clear q1 q2 hBk4 hF4 hC4 b5 hBk3 vlow hnd L5 n5 n6 B4 hBk hfl
  have v1 : ((parse (bs s)).vars == (parse (bs s)).vars) = true := by simp
  have v2 : ((parse (bs s)).err == (parse (bs s)).err) = true := by simp
  have v3 : ((parse (bs s)).place == (parse (bs s)).place) = true := by simp
  go_wp2
  go_ret
  exact ⟨rfl, vl', vm', vo', E', D', hFin⟩
end Go.Proofs.YtlodenfdcckemaaDoor
