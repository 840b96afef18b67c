/-
  Propagate, the program's and the document's, in the same words.
-/
import Derived.Test.YtlodenfdcckemaaDoorH29
namespace Go.Proofs.YtlodenfdcckemaaDoor
open Go.RowKit

theorem tellOf_congr (V : Nat) (T U : Int → Bool) (h : ∀ l, IsLit V l → T l = U l) : tellOf V T = tellOf V U := by
  unfold tellOf
  apply List.filter_congr
  intro l hl
  obtain ⟨m, hm, rfl⟩ := List.mem_map.1 hl
  exact h _ (atp_lit (List.mem_range.1 hm))

/-- What is answered: the list, whether there is a conflict, the error. -/
def PRes (V : Nat) (C : List (List Int)) (g : List Int) (zs : List Int) (c : Bool) (x : Int) : Prop :=
  (litsFault V g ≠ 0 ∧ zs = [] ∧ c = false ∧ x = 6) ∨ (litsFault V g = 0 ∧ Conf C (fun l => l ∈ g) ∧ zs = [] ∧ c = true ∧ x = 0) ∨
  (litsFault V g = 0 ∧ ¬ Conf C (fun l => l ∈ g) ∧ c = false ∧ x = 0 ∧ ∃ T : Int → Bool, (∀ l, IsLit V l → (T l = true ↔ Fol C (fun l => l ∈ g) l)) ∧ (∀ l, Fol C (fun l => l ∈ g) l → IsLit V l) ∧ zs = tellOf V T)

theorem PRes.same {V : Nat} {C : List (List Int)} {g zs zs' : List Int} {c c' : Bool} {x x' : Int} (h : PRes V C g zs c x) (h' : PRes V C g zs' c' x') : zs = zs' ∧ c = c' ∧ x = x' := by
  rcases h with ⟨h1, h2, h3, h4⟩ | ⟨h1, h2, h3, h4, h5⟩ | ⟨h1, h2, h3, h4, T, h5, _, h6⟩ <;> rcases h' with ⟨k1, k2, k3, k4⟩ | ⟨k1, k2, k3, k4, k5⟩ | ⟨k1, k2, k3, k4, U, k5, _, k6⟩
  · exact ⟨by rw [h2, k2], by rw [h3, k3], by rw [h4, k4]⟩
  · exact absurd k1 h1
  · exact absurd k1 h1
  · exact absurd h1 k1
  · exact ⟨by rw [h3, k3], by rw [h4, k4], by rw [h5, k5]⟩
  · exact absurd h2 k2
  · exact absurd h1 k1
  · exact absurd k2 h2
  · refine ⟨?_, by rw [h3, k3], by rw [h4, k4]⟩
    rw [h6, k6]
    apply tellOf_congr
    intro l hl
    rw [Bool.eq_iff_iff, h5 l hl, k5 l hl]

theorem PRes.len {V : Nat} (hV : V ≤ 20) {C : List (List Int)} {g zs : List Int} {c : Bool} {x : Int} (h : PRes V C g zs c x) : zs.length ≤ 64 := by
  rcases h with ⟨_, h2, _⟩ | ⟨_, _, h3, _⟩ | ⟨_, _, _, _, T, _, _, h6⟩
  · rw [h2]; simp
  · rw [h3]; simp
  · rw [h6]; exact Nat.le_trans (tellOf_len V T) (by omega)

set_option maxHeartbeats 400000 in
theorem propagate_bad (vars : Int) (ao : Option Addr) (cap : Nat) (cs : List (List Int)) (v : Value) (w : World) (hc : ListsAt w w.heap.size ao cs) (hf : (fault vars cs).1 ≠ 0) :
    Calls Tryd.prog 13 #[.agg #[.int .i64 vars, .slice ao cs.length cap], v] w fun e w' => e = .returned (.tuple #[.slice none 0 0, .bool false, .int .i64 (fault vars cs).1]) ∧ Below w.heap.size w w' := by
  have hne : ((fault vars cs).1 != 0) = true := by simp [hf]
  have hw1 : Below w.heap.size w (w.alloc (.cells #[.int .i64 vars, .slice ao cs.length cap] 31)) := (Below.refl _ _).alloc (Nat.le_refl _) _
  have B0 := blk_new w [.int .i64 vars, .slice ao cs.length cap] 31
  go_enter Tryd.func13, Tryd.ntmps13
  go_wp2_with fail
  change Blk (w.alloc (.cells #[.int .i64 vars, .slice ao cs.length cap] 31)) w.heap.size 31 _ at B0
  generalize w.alloc (.cells #[.int .i64 vars, .slice ao cs.length cap] 31) = W at *
  have hc1 := (hc.below hw1 (Nat.le_refl _)).mono hw1.size
  refine (of_any vars ao cap cs W hc1).mono ?_
  rintro e w1 ⟨rfl, hb1⟩
  have hb : Below w.heap.size w w1 := hw1.trans (hb1.mono hw1.size)
  clear hf
  go_wp2
  go_ret3
  exact ⟨rfl, hb⟩

set_option maxHeartbeats 1000000 in
theorem propagate_none (n : Nat) (ao go : Option Addr) (cap gcap : Nat) (cs : List (List Int)) (g : List Int) (w : World) (hc : ListsAt w w.heap.size ao cs) (hgi : IntsAt w w.heap.size go g) (hg : Good n cs) (hf : (fault n cs).1 = 0) (hgl : litsFault n g ≠ 0) (hlen : g.length ≤ 4611686018427387904) :
    Calls Tryd.prog 13 #[.agg #[.int .i64 n, .slice ao cs.length cap], .slice go g.length gcap] w fun e w' => e = .returned (.tuple #[.slice none 0 0, .bool false, .int .i64 6]) ∧ Below w.heap.size w w' := by
  have hne : ((fault n cs).1 != 0) = false := by simp [hf]
  have hl6 : litsFault n g = 6 := by
    unfold litsFault at hgl ⊢
    split at hgl
    · exact absurd rfl hgl
    · rename_i h; rw [if_neg h]
  have hV := hg.vars
  have hw1 : Below w.heap.size w (w.alloc (.cells #[.int .i64 n, .slice ao cs.length cap] 31)) := (Below.refl _ _).alloc (Nat.le_refl _) _
  have B0 : Blk (w.alloc (.cells #[.int .i64 n, .slice ao cs.length cap] 31)) w.heap.size 31 [.int .i64 n, .slice ao cs.length cap] := blk_new w [.int .i64 n, .slice ao cs.length cap] 31
  go_enter Tryd.func13, Tryd.ntmps13
  go_wp2_with fail
  generalize w.alloc (.cells #[.int .i64 n, .slice ao cs.length cap] 31) = W at *
  refine (of_any n ao cap cs W ((hc.below hw1 (Nat.le_refl _)).mono hw1.size)).mono ?_
  rintro e w1 ⟨rfl, hb1⟩
  have hb : Below w.heap.size w w1 := hw1.trans (hb1.mono hw1.size)
  have B1 := B0.below' hb1
  have n0 : w1.cell? ⟨w.heap.size, 0, none⟩ = some (.int .i64 n) := B1.cell (i := 0) (by simp) undef
  have hg1 := (hgi.below hb (Nat.le_refl _)).mono hb.size
  have c1 := faultLits_any n go gcap g w1 _ hg1 (by omega) (by omega) hlen
  rw [hl6] at c1
  have hBl := B1.lt
  have HBw : Hid (Below w.heap.size w w1) := hb
  clear hf hgl hl6 hw1 B0 hb1 hb
  go_wp2_with (first | (go_at_call 43; refine c1.mono ?_; rintro e w' ⟨rfl, hw'⟩; obtain rfl := hw'.symm))
  go_ret3
  exact ⟨rfl, HBw.out⟩

theorem propagate_all (n : Nat) (ao go : Option Addr) (cap gcap : Nat) (cs : List (List Int)) (g : List Int) (w : World) (hc : ListsAt w w.heap.size ao cs) (hgi : IntsAt w w.heap.size go g) (hg : Good n cs) (hf : (fault n cs).1 = 0) (hlen : g.length ≤ 4611686018427387904) (hT : Tab w) (hw0 : 0 < w.heap.size) :
    Calls Tryd.prog 13 #[.agg #[.int .i64 n, .slice ao cs.length cap], .slice go g.length gcap] w fun e w' => ∃ v zs c x, e = .returned (.tuple #[v, .bool c, .int .i64 x]) ∧ Own w' w.heap.size 3 v (ints zs) ∧ PRes n cs g zs c x ∧ Below w.heap.size w w' := by
  by_cases hgl : litsFault n g = 0
  · refine (propagate_good n ao go cap gcap cs g w hc hgi hg hf hgl hlen hT hw0).mono ?_
    rintro e w' ⟨h, hb⟩
    rcases h with ⟨hconf, rfl⟩ | ⟨S, v, hS, hSh, rfl, hO⟩
    · exact ⟨.slice none 0 0, [], true, 0, rfl, Own.nil _ _ _, Or.inr (Or.inl ⟨hgl, hconf, rfl, rfl, rfl⟩), hb⟩
    · refine ⟨v, litsOf 64 S, false, 0, rfl, hO, Or.inr (Or.inr ⟨hgl, hSh.noconf, rfl, rfl, fun l => S.testBit (pl l), fun l hl => ⟨fun ht => ?_, fun hF => (hSh.fol hF).2⟩, fun l hF => (hSh.fol hF).1, ?_⟩), hb⟩
      · have := hS.fol _ ht
        rwa [atp_pl hl.1] at this
      · rw [litsOf_short hg.vars hS.small]
        apply litsOf_tell
        intro m _
        rw [pl_atp]
  · refine (propagate_none n ao go cap gcap cs g w hc hgi hg hf hgl hlen).mono ?_
    rintro e w' ⟨rfl, hb⟩
    exact ⟨.slice none 0 0, [], false, 6, rfl, Own.nil _ _ _, Or.inl ⟨hgl, rfl, rfl, rfl⟩, hb⟩

theorem rprop_all (n : Nat) (ao go : Option Addr) (cap gcap : Nat) (cs : List (List Int)) (g : List Int) (w : World) (hc : ListsAt w w.heap.size ao cs) (hgi : IntsAt w w.heap.size go g) (hg : Good n cs) (hlen : g.length ≤ 4611686018427387904) (hnum : ∀ l ∈ g, -9223372036854775808 ≤ l ∧ l ≤ 9223372036854775807) :
    Calls Tryd.prog 15 #[.agg #[.int .i64 n, .slice ao cs.length cap], .slice go g.length gcap] w fun e w' => ∃ v zs c x, e = .returned (.tuple #[v, .bool c, .int .i64 x]) ∧ Own w' w.heap.size 3 v (ints zs) ∧ PRes n cs g zs c x ∧ Below w.heap.size w w' := by
  refine (rprop_any n hg.vars ao go cap gcap cs g w hc hgi (fun c hc l hl => hg.lits c hc l hl) hg.many hg.long hlen hnum).mono ?_
  rintro e w' ⟨h, hb⟩
  rcases h with ⟨h1, rfl⟩ | ⟨h1, bs, hR, ⟨hx, rfl⟩ | ⟨hx, v, rfl, hO⟩⟩
  · exact ⟨.slice none 0 0, [], false, 6, rfl, Own.nil _ _ _, Or.inl ⟨h1, rfl, rfl, rfl⟩, hb⟩
  · exact ⟨.slice none 0 0, [], true, 0, rfl, Own.nil _ _ _, Or.inr (Or.inl ⟨h1, hR.come.conf hx, rfl, rfl, rfl⟩), hb⟩
  · have hSh := hR.shut hx
    exact ⟨v, _, false, 0, rfl, hO, Or.inr (Or.inr ⟨h1, hSh.noconf, rfl, rfl, there bs, fun l hl => ⟨fun ht => hR.come.fol l hl ht, fun hF => (hSh.fol hF).2⟩, fun l hF => (hSh.fol hF).1, rfl⟩), hb⟩
end Go.Proofs.YtlodenfdcckemaaDoor
