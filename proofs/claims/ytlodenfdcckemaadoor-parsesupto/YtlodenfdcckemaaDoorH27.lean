/-
  The law's walk: three times Parse, the books between.
-/
import Derived.Test.YtlodenfdcckemaaDoorH26
namespace Go.Proofs.YtlodenfdcckemaaDoor
open Go.RowKit

/-- What stands between two calls. -/
structure Mid (w W : World) (O N M : Nat) : Prop where
  bk : ∃ vl vm vo E D, Bk W O vl vm vo E D ∧ E.length ≤ N ∧ D.length ≤ M ∧ ∀ k, Foot O vl vm vo E D k → w.heap.size ≤ k
  bl : Below w.heap.size w W

theorem parsed_mid (s : ByteArray) (m : Int) (O N M : Nat) (w W : World) (hs : s.size ≤ 1100000) (hT : Lib.Utf8Tabs 2 3 w) (hm : w.cell? ⟨1, 0, none⟩ = some (.int .i64 m)) (hM : Mid w W O N M) (hN : N ≤ 4000) (hM' : M ≤ 80) :
    Calls Tryd.prog 10 #[.string s, .pointer (some ⟨O, 0, none⟩)] W fun e W' => e = .returned (.bool true) ∧ Mid w W' O (N + 800) (M + 4) := by
  obtain ⟨⟨vl, vm, vo, E, D, hBk, hE, hD, hF⟩, hb⟩ := hM
  have h2 := size2 hT
  refine (parsed_any s m O vl vm vo E D W hs (tabs_of hT (hb.block 2 (by omega)) (hb.block 3 (by omega))) ((hb.cell (p := ⟨1, 0, none⟩) (show 1 < w.heap.size by omega)).trans hm) hBk (by omega) (by omega)).mono ?_
  rintro e W' ⟨rfl, vl', vm', vo', E', D', hBk', hE', hD', hF', hC'⟩
  have hs := hb.size
  refine ⟨rfl, ⟨vl', vm', vo', E', D', hBk', by omega, by omega, fun k hk => ?_⟩, hb.trans (hC'.below hb.size hF)⟩
  rcases hF' k hk with h | h
  · exact hF k h
  · omega

set_option maxHeartbeats 1000000 in
theorem parses_any (s : ByteArray) (m : Int) (w : World) (hs : s.size ≤ 1100000) (hT : Lib.Utf8Tabs 2 3 w) (hm : w.cell? ⟨1, 0, none⟩ = some (.int .i64 m)) :
    Calls Tryd.prog 3 #[.string s] w fun e w' => e = .returned (.bool true) ∧ Below w.heap.size w w' := by
  have n1 := blk_new w [.slice none 0 0, .slice none 0 0, .slice none 0 0] 27
  have a1 := alloc_below w (.cells #[.slice none 0 0, .slice none 0 0, .slice none 0 0] 27)
  have M0 : Mid w (w.alloc (.cells #[.slice none 0 0, .slice none 0 0, .slice none 0 0] 27)) w.heap.size 0 0 :=
    ⟨⟨_, _, _, [], [], Bk.start n1, Nat.le_refl _, Nat.le_refl _, by
      rintro k (h | h | h | h | ⟨e, he, _⟩ | ⟨d, hd, _⟩)
      · omega
      · simp [Value.ownBlock] at h
      · simp [Value.ownBlock] at h
      · simp [Value.ownBlock] at h
      · simp at he
      · simp at hd⟩, a1⟩
  clear n1 a1
  go_enter Tryd.func3, Tryd.ntmps3
  go_wp2_with fail
  refine (parsed_mid _ m w.heap.size 0 0 w _ (by decide) hT hm M0 (by omega) (by omega)).mono ?_
  rintro e W1 ⟨rfl, M1⟩
  go_wp2_with fail
  refine (parsed_mid s m w.heap.size _ _ w W1 hs hT hm M1 (by omega) (by omega)).mono ?_
  rintro e W2 ⟨rfl, M2⟩
  go_wp2_with fail
  refine (parsed_mid s m w.heap.size _ _ w W2 hs hT hm M2 (by omega) (by omega)).mono ?_
  rintro e W3 ⟨rfl, M3⟩
  go_wp2
  go_ret
  exact ⟨rfl, M3.bl⟩
end Go.Proofs.YtlodenfdcckemaaDoor
