/-
  The walks of the functions that hand formulas in with spare room, and look whether it was kept.
-/
import Derived.Test.YtlodenfdcckemaaDoorH47
namespace Go.Proofs.YtlodenfdcckemaaDoor
open Go.RowKit

/-- A list with its spare room, as cells. -/
def marked (c : List Int) : List Value := (c ++ [77, 77, 77, 77]).map (Value.int .i64)

/-- Cell i of a list of lists with spare room; the list lies at block gi. -/
def handCell (cs : List (List Int)) (i gi : Nat) : Value := .slice (some ⟨gi, 0, none⟩) (cs.getD i []).length ((cs.getD i []).length + 4)

/-- The lists cs lie at block g with spare room, the first k of them and of the room. -/
def HandedTo (w : World) (B g : Nat) (cs : List (List Int)) (k : Nat) : Prop :=
  g < B ∧ ∃ L, Blk w g 24 L ∧ L.length = cs.length + 4 ∧ ∀ i, i < k → ∃ gi, L.getD i undef = handCell cs i gi ∧ g < gi ∧ gi < B ∧ Blk w gi 3 (marked (cs.getD i []))

def Handed (w : World) (B g : Nat) (cs : List (List Int)) : Prop := HandedTo w B g cs (cs.length + 4)

theorem HandedTo.below {w w' : World} {B B' g k : Nat} {cs : List (List Int)} (h : HandedTo w B g cs k) (hb : Below B' w w') (hB : B ≤ B') : HandedTo w' B g cs k := by
  obtain ⟨hg, L, h1, h2, h3⟩ := h
  refine ⟨hg, L, h1.below hb (by omega), h2, fun i hi => ?_⟩
  obtain ⟨gi, e1, e0, e2, e3⟩ := h3 i hi
  exact ⟨gi, e1, e0, e2, e3.below hb (by omega)⟩

theorem HandedTo.mono {w : World} {B B' g k : Nat} {cs : List (List Int)} (h : HandedTo w B g cs k) (hB : B ≤ B') : HandedTo w B' g cs k := by
  obtain ⟨hg, L, h1, h2, h3⟩ := h
  refine ⟨by omega, L, h1, h2, fun i hi => ?_⟩
  obtain ⟨gi, e1, e0, e2, e3⟩ := h3 i hi
  exact ⟨gi, e1, e0, by omega, e3⟩

theorem HandedTo.step {w : World} {B g k gi : Nat} {cs : List (List Int)} (h : HandedTo w B g cs k) (hk : k < cs.length + 4) (hgi : g < gi) (hB : gi < B) (hb : Blk w gi 3 (marked (cs.getD k []))) :
    HandedTo (w.setCell ⟨g, k, none⟩ (handCell cs k gi)) B g cs (k + 1) := by
  obtain ⟨hg, L, h1, h2, h3⟩ := h
  refine ⟨hg, _, h1.set k _, by simp [h2], fun i hi => ?_⟩
  by_cases e : i = k
  · subst e
    refine ⟨gi, ?_, hgi, hB, hb.setOther (by simp; omega) _⟩
    simp [h2, hk]
  · obtain ⟨gj, e1, e0, e2, e3⟩ := h3 i (by omega)
    refine ⟨gj, ?_, e0, e2, e3.setOther (by simp; omega) _⟩
    rw [← e1]
    simp [Ne.symm e]

theorem HandedTo.start {w' : World} {g : Nat} {cs : List (List Int)} (h : Blk w' g 24 (List.replicate (cs.length + 4) (.slice none 0 0))) : HandedTo w' w'.heap.size g cs 0 :=
  ⟨h.lt, _, h, by simp, fun i hi => by omega⟩

theorem HandedTo.room {w : World} {B g k : Nat} {cs : List (List Int)} (h : HandedTo w B g cs k) {i : Nat} (hi : i < cs.length + 4) : (∃ old, w.cell? ⟨g, i, none⟩ = some old) ∧ w.frozen? ⟨g, i, none⟩ = false := by
  obtain ⟨hg, L, h1, h2, h3⟩ := h
  exact ⟨⟨_, h1.cell (by omega) undef⟩, h1.frozen i⟩

theorem marked_length (c : List Int) : (marked c).length = c.length + 4 := by simp [marked]

theorem Handed.lists {w : World} {B g : Nat} {cs : List (List Int)} (h : Handed w B g cs) : ListsAt w B (some ⟨g, 0, none⟩) cs := by
  intro _
  obtain ⟨hg, L, h1, h2, h3⟩ := h
  refine ⟨g, 0, rfl, hg, fun i hi => ?_⟩
  obtain ⟨gi, e1, _, e2, e3⟩ := h3 i (by omega)
  refine ⟨some ⟨gi, 0, none⟩, (cs.getD i []).length + 4, ?_, fun _ => ⟨gi, 0, rfl, e2, fun j hj => ?_⟩⟩
  · rw [Nat.zero_add, h1.cell (by omega) undef, e1]; rfl
  · rw [Nat.zero_add, e3.cell (by rw [marked_length]; omega) undef, marked, marked_low _ _ hj]

theorem ints_none (w : World) (B : Nat) : IntsAt w B none [] := fun h => absurd rfl h

set_option maxHeartbeats 400000 in
theorem lists_any (ao : Option Addr) (cap : Nat) (cs : List (List Int)) (w : World) (hc : ListsAt w w.heap.size ao cs) (hl : cs.length * 24 ≤ 140737488351232) (hin : ∀ c ∈ cs, c.length * 8 ≤ 140737488351232) :
    Calls Tryd.prog 41 #[.slice ao cs.length cap] w fun e w' => e = .returned (.slice (some ⟨w.heap.size, 0, none⟩) cs.length (cs.length + 4)) ∧
      Handed w' w'.heap.size w.heap.size cs ∧ Below w.heap.size w w' := by
  have HN : Hid _ := hin
  clear hin
  go_enter Tryd.func41, Tryd.ntmps41
  go_wp2_with (first
    | (at_make; refine wpList_make_blk _ rfl (.tmp 7) (.tmp 7) 23 rfl 24 (.slice none 0 0) 24 Tryd.underlying23 Tryd.info24 rfl .i64 .i64 (cs.length + 4) _ _ rfl rfl (by omega) (by omega) (by omega) (by omega) ?_; intro w1 hB1 hb1 hs1))
  go_loopw [4] (fun i wr => ∃ (k : Nat), k ≤ cs.length + 4 ∧ i = .int .i64 k ∧ HandedTo wr wr.heap.size w.heap.size cs k ∧ Below w.heap.size w wr) (fun i _ => cs.length + 4 - (intOf i).toNat)
  case atStart => exact ⟨0, by omega, rfl, HandedTo.start hB1, hb1⟩
  case round =>
    clear hB1 hs1 hb1
    obtain ⟨k, hk, rfl, hH, hb⟩ := hrel
    by_cases hlt : k < cs.length + 4
    · by_cases hz : k < cs.length
      · obtain ⟨b, o, rfl, hbl, hcc⟩ := hc (by intro h; rw [h] at hz; simp at hz)
        obtain ⟨A, C, hck, hci⟩ := hcc k hz
        replace hck := (hb.cell (p := ⟨b, o + k, none⟩) hbl).trans hck
        have hci2 := (hci.below hb (Nat.le_refl _)).mono hb.size
        have hlen : (cs.getD k []).length * 8 ≤ 140737488351232 := HN.out _ (by rw [getD_lt _ _ _ hz]; exact List.getElem_mem hz)
        have hcelleq : Hid (∀ gi, Value.slice (some ⟨gi, 0, none⟩) (cs.getD k []).length ((cs.getD k []).length + 4) = handCell cs k gi) := fun gi => rfl
        have hmk : Hid (∀ (w : World) (g : Nat), Blk w g 3 (((cs.getD k []) ++ [77, 77, 77, 77]).map (Value.int .i64)) → Blk w g 3 (marked (cs.getD k []))) := fun _ _ h => h
        obtain ⟨c, hx⟩ : ∃ x, x = cs.getD k [] := ⟨_, rfl⟩
        rw [← hx] at hck hci2 hlen hcelleq hmk
        have HX : Hid (c = cs.getD k []) := hx
        clear hx hci hcc
        go_wp2_with (go_at_call 12; refine (numbers_any A C c _ hci2 hlen).mono ?_; rintro e w2 ⟨rfl, hBn, hbn⟩; have hH2 := hH.below hbn (Nat.le_refl _); obtain ⟨⟨old, hold⟩, hfr⟩ := hH2.room hlt)
        go_roundw
        case rel =>
          refine ⟨k + 1, by omega, by go_num, ?_, (hb.trans (hbn.mono hb.size)).setCell (Nat.le_refl _) _⟩
          have := (hH2.mono (B' := w2.heap.size) hbn.size).step hlt (gi := wr.heap.size) hH.1 hBn.lt (HX.out ▸ hmk.out _ _ hBn)
          rw [hcelleq.out]
          simpa [World.setCell] using this
        case measure => simp [intOf]; omega
      · have hnil : cs.getD k [] = [] := by rw [List.getD_eq_getElem?_getD, List.getElem?_eq_none (by omega)]; rfl
        have HX : Hid (cs.getD k [] = []) := hnil
        have hci2 : IntsAt wr wr.heap.size none [] := ints_none _ _
        clear hnil
        go_wp2_with (go_at_call 12; refine (numbers_any none 0 [] _ hci2 (by simp)).mono ?_; rintro e w2 ⟨rfl, hBn, hbn⟩; have hH2 := hH.below hbn (Nat.le_refl _); obtain ⟨⟨old, hold⟩, hfr⟩ := hH2.room hlt)
        go_roundw
        case rel =>
          refine ⟨k + 1, by omega, by go_num, ?_, (hb.trans (hbn.mono hb.size)).setCell (Nat.le_refl _) _⟩
          have hst := (hH2.mono (B' := w2.heap.size) hbn.size).step hlt (gi := wr.heap.size) hH.1 hBn.lt (by rw [HX.out]; exact hBn)
          have e : handCell cs k wr.heap.size = .slice (some ⟨wr.heap.size, 0, none⟩) 0 4 := by rw [handCell, HX.out]; rfl
          rw [e] at hst
          simpa [World.setCell] using hst
        case measure => simp [intOf]; omega
    · obtain rfl : k = cs.length + 4 := by omega
      go_wp2
      go_ret
      exact ⟨rfl, hH, hb⟩

theorem HandedTo.setOther {w : World} {B g k : Nat} {cs : List (List Int)} (h : HandedTo w B g cs k) {a : Addr} (ha : a.block < g) (v : Value) : HandedTo (w.setCell a v) B g cs k := by
  obtain ⟨hg, L, h1, h2, h3⟩ := h
  refine ⟨hg, L, h1.setOther (by omega) v, h2, fun i hi => ?_⟩
  obtain ⟨gi, e1, e0, e2, e3⟩ := h3 i hi
  exact ⟨gi, e1, e0, e2, e3.setOther (by omega) v⟩

theorem handed_done {w w2 w3 : World} {cs : List (List Int)} (hsz : w2.heap.size = w.heap.size + 2) (hH : Handed w3 w3.heap.size w2.heap.size cs) (hb2 : Below w.heap.size w w2) (hb : Below w2.heap.size w2 w3) (u v : Value) (i j : Nat) :
    Handed ((w3.setCell ⟨w.heap.size + 1, i, none⟩ u).setCell ⟨w.heap.size + 1, j, none⟩ v) ((w3.setCell ⟨w.heap.size + 1, i, none⟩ u).setCell ⟨w.heap.size + 1, j, none⟩ v).heap.size w2.heap.size cs ∧
      Below w.heap.size w ((w3.setCell ⟨w.heap.size + 1, i, none⟩ u).setCell ⟨w.heap.size + 1, j, none⟩ v) := by
  constructor
  · have := (HandedTo.setOther (HandedTo.setOther hH (a := ⟨w.heap.size + 1, i, none⟩) (by simp; omega) u) (a := ⟨w.heap.size + 1, j, none⟩) (by simp; omega) v)
    unfold Handed
    simpa [World.setCell] using this
  · exact ((hb2.trans (hb.mono (by omega))).setCell (by simp) u).setCell (by simp) v

theorem later {w2 w3 : World} {N : Nat} {vars : Int} {v : Value} {L : List Value} (c0 : w2.cell? ⟨N, 0, none⟩ = some (.int .i64 vars)) (c1 : w2.cell? ⟨N, 1, none⟩ = some v) (B2 : Blk w2 (N + 1) 31 L) (hL : L.length = 2) (hb : Below w2.heap.size w2.drew w3) :
    Below w2.heap.size w2 w3 ∧ w3.cell? ⟨N, 0, none⟩ = some (.int .i64 vars) ∧ w3.cell? ⟨N, 1, none⟩ = some v ∧ (∃ x, w3.cell? ⟨N + 1, 0, none⟩ = some x) ∧ (∃ x, w3.cell? ⟨N + 1, 1, none⟩ = some x) ∧ w3.frozen? ⟨N + 1, 0, none⟩ = false ∧ w3.frozen? ⟨N + 1, 1, none⟩ = false := by
  have hb' : Below w2.heap.size w2 w3 := (Below.refl _ w2).drew.trans hb
  have hN := B2.lt
  have B3 := B2.below' hb'
  exact ⟨hb', (hb'.cell (p := ⟨N, 0, none⟩) (by simp; omega)).trans c0, (hb'.cell (p := ⟨N, 1, none⟩) (by simp; omega)).trans c1, ⟨_, B3.cell (by omega) undef⟩, ⟨_, B3.cell (by omega) undef⟩, B3.frozen 0, B3.frozen 1⟩

set_option maxHeartbeats 400000 in
theorem handed_any (vars : Int) (ao : Option Addr) (cap : Nat) (cs : List (List Int)) (w : World) (hc : ListsAt w w.heap.size ao cs) (hl : cs.length * 24 ≤ 140737488351232) (hin : ∀ c ∈ cs, c.length * 8 ≤ 140737488351232) :
    Calls Tryd.prog 11 #[.agg #[.int .i64 vars, .slice ao cs.length cap]] w fun e w' => ∃ g, e = .returned (.agg #[.int .i64 vars, .slice (some ⟨g, 0, none⟩) cs.length (cs.length + 4)]) ∧
      w.heap.size ≤ g ∧ Handed w' w'.heap.size g cs ∧ Below w.heap.size w w' := by
  have HN : Hid (∀ c ∈ cs, c.length * 8 ≤ 140737488351232) := hin
  clear hin
  go_enter Tryd.func11, Tryd.ntmps11
  go_wp2
  generalize hw2 : (w.alloc (Obj.cells #[Value.int IntKind.i64 vars, Value.slice ao cs.length cap] 31)).alloc (Obj.cells #[Value.int IntKind.i64 0, Value.slice none 0 0] 31) = w2
  have c0 : w2.cell? ⟨w.heap.size, 0, none⟩ = some (.int .i64 vars) := by rw [← hw2]; simp
  have c1 : w2.cell? ⟨w.heap.size, 1, none⟩ = some (.slice ao cs.length cap) := by rw [← hw2]; simp
  have hsz : w2.heap.size = w.heap.size + 2 := by rw [← hw2]; simp
  have hb2 : Below w.heap.size w w2 := by rw [← hw2]; exact ((Below.refl _ _).alloc (Nat.le_refl _) _).alloc (by simp) _
  have B2 : Blk w2 (w.heap.size + 1) 31 [.int .i64 0, .slice none 0 0] := by
    rw [← hw2]
    have := blk_new (w.alloc (Obj.cells #[Value.int IntKind.i64 vars, Value.slice ao cs.length cap] 31)) [.int .i64 0, .slice none 0 0] 31
    simpa using this
  clear hw2
  have hc2 := (hc.below hb2 (Nat.le_refl _)).mono hb2.size
  clear hc
  have HSZ : Hid _ := hsz
  clear hsz
  go_region_with (go_at_call 41; refine (lists_any ao cap cs _ ?_ hl HN.out).mono ?_; exact hc2; rintro e w3 ⟨rfl, hH, hb3⟩; obtain ⟨hb4, c0', c1', ⟨x0, d0⟩, ⟨x1, d1⟩, f0, f1⟩ := later c0 c1 B2 rfl hb3)
  all_goals go_wp2
  all_goals
    have hd := handed_done HSZ.out hH hb2 hb4 (.int .i64 vars) (.slice (some ⟨w2.heap.size, 0, none⟩) cs.length (cs.length + 4)) 0 1
    exact bodyPost_ret (v := .agg #[.int .i64 vars, .slice (some ⟨w2.heap.size, 0, none⟩) cs.length (cs.length + 4)]) (by simp [results, Tryd.results11, go_sem, d0, d1]) rfl ⟨_, rfl, hb2.size, hd.1, hd.2⟩
end Go.Proofs.YtlodenfdcckemaaDoor
