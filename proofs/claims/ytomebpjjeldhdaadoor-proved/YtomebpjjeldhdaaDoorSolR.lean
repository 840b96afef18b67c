/-
  The document's look at an assignment: the walks of holds and True.
-/
import Derived.Test.YtomebpjjeldhdaaDoorSolP
import Derived.Test.YtomebpjjeldhdaaDoorSeaS
namespace Go.Proofs.YtomebpjjeldhdaaDoor
open Go.RowKit

theorem modelOf_len (V S : Nat) : (modelOf V S).length = V := by simp [modelOf]
theorem modelOf_at {V S v : Nat} (h : v < V) : (modelOf V S).getD v 0 = ((v + 1 : Nat) : Int) ∨ (modelOf V S).getD v 0 = -((v + 1 : Nat) : Int) := by
  unfold modelOf
  rw [List.getD_eq_getElem?_getD, List.getElem?_map, List.getElem?_range h]
  simp only [Option.map_some, Option.getD_some]
  split
  · exact Or.inl rfl
  · exact Or.inr rfl

set_option maxHeartbeats 1000000 in
theorem holds_any (mo : Option Addr) (mc : Nat) (zs : List Int) (l : Int) (w : World) (B : Nat) (hz : IntsAt w B mo zs) (hl : IsLit zs.length l) (hn : zs.length ≤ 20) :
    Calls Tryd.prog 117 #[.slice mo zs.length mc, .int .i64 l] w fun e w' => e = .returned (.bool (zs.getD (pl l / 2) 0 == l)) ∧ w' = w := by
  obtain ⟨h0, h1, h2⟩ := hl
  obtain ⟨b, o, rfl, hb, hc⟩ := hz (by intro e; rw [e] at h1 h2; simp at h1 h2; omega)
  have hp : pl l / 2 < zs.length := by unfold pl; split <;> omega
  have hk := hc (pl l / 2) hp
  by_cases hl : 0 < l
  · have e : (l - 1) = ((pl l / 2 : Nat) : Int) := by unfold pl; rw [if_neg (by omega)]; omega
    have hl' : decide (0 < l) = true := by simp [hl]
    have i0 : (0 : Int) ≤ ((pl l / 2 : Nat) : Int) := by omega
    have i1 : ((pl l / 2 : Nat) : Int) < (zs.length : Int) := by omega
    have hw : IntKind.i64.wrap (l - 1) = ((pl l / 2 : Nat) : Int) := by rw [e]; exact wrapI (by omega) (by omega)
    generalize pl l / 2 = p at *
    generalize zs.getD p 0 = x at *
    clear hc e
    go_enter Tryd.func117, Tryd.ntmps117
    go_wp2
    go_ret
    exact ⟨rfl, rfl⟩
  · have e : (-l - 1) = ((pl l / 2 : Nat) : Int) := by unfold pl; rw [if_pos (by omega)]; omega
    have hl' : decide (0 < l) = false := by simp; omega
    have i0 : (0 : Int) ≤ ((pl l / 2 : Nat) : Int) := by omega
    have i1 : ((pl l / 2 : Nat) : Int) < (zs.length : Int) := by omega
    have hw0 : IntKind.i64.wrap (-l) = -l := wrapI (by omega) (by omega)
    have hw : IntKind.i64.wrap (-l - 1) = ((pl l / 2 : Nat) : Int) := by rw [e]; exact wrapI (by omega) (by omega)
    generalize pl l / 2 = p at *
    generalize zs.getD p 0 = x at *
    clear hc e
    go_enter Tryd.func117, Tryd.ntmps117
    go_wp2
    go_ret
    exact ⟨rfl, rfl⟩

/-- A literal of a clause so far holds. -/
def anyAt (zs c : List Int) (k : Nat) : Bool := (c.take k).any fun l => zs.getD (pl l / 2) 0 == l

theorem anyAt_succ {zs c : List Int} {k : Nat} (h : k < c.length) : anyAt zs c (k + 1) = (anyAt zs c k || (zs.getD (pl (c.getD k 0) / 2) 0 == c.getD k 0)) := by
  unfold anyAt
  rw [List.take_succ_eq_append_getElem h, List.any_append, getD_lt _ _ _ h]
  simp

set_option maxRecDepth 100000 in
set_option maxHeartbeats 2000000 in
theorem true_any (n S : Nat) (hn : n ≤ 20) (ao mo : Option Addr) (cap mc : Nat) (cs : List (List Int)) (w : World) (hc : ListsAt w w.heap.size ao cs) (hm : IntsAt w w.heap.size mo (modelOf n S)) (hlen : cs.length ≤ 200) (heach : ∀ c ∈ cs, c.length ≤ 20) (hlit : ∀ c ∈ cs, ∀ l ∈ c, IsLit n l) (hok : ∀ c ∈ cs, ∃ l ∈ c, IsLit n l ∧ (modelOf n S).getD (pl l / 2) 0 = l) :
    Calls Tryd.prog 98 #[.agg #[.int .i64 n, .slice ao cs.length cap], .slice mo n mc] w fun e w' => e = .returned (.bool true) ∧ Below w.heap.size w w' := by
  have hw1 := alloc_below w (.cells #[.int .i64 n, .slice ao cs.length cap] 31)
  have Bf := blk_new w [.int .i64 n, .slice ao cs.length cap] 31
  dsimp only [List.toArray] at Bf
  have hne : ((n : Int) != (n : Int)) = false := by simp
  have HAt : Hid (∀ v, v < n → (modelOf n S).getD v 0 = ((v + 1 : Nat) : Int) ∨ (modelOf n S).getD v 0 = -((v + 1 : Nat) : Int)) := fun v hv => modelOf_at hv
  have hml : (modelOf n S).length = n := modelOf_len n S
  go_enter Tryd.func98, Tryd.ntmps98
  go_wp2
  generalize w.alloc (.cells #[.int .i64 n, .slice ao cs.length cap] 31) = W at *
  have m0 : W.cell? ⟨w.heap.size, 0, none⟩ = some (.int .i64 n) := Bf.cell (i := 0) (by simp) undef
  have m1 : W.cell? ⟨w.heap.size, 1, none⟩ = some (.slice ao cs.length cap) := Bf.cell (i := 1) (by simp) undef
  have hcW := hc.below hw1 (Nat.le_refl _)
  have hmW := hm.below hw1 (Nat.le_refl _)
  generalize modelOf n S = zs at *
  clear hc hm Bf
  go_loop [5] (fun x => ∃ v : Nat, v ≤ n ∧ x = .int .i64 ((v : Int) + 1)) (fun x => n + 1 - (intOf x).toNat)
  case atStart => exact ⟨0, Nat.zero_le _, rfl⟩
  case round =>
    obtain ⟨v, hv, rfl⟩ := hrel
    by_cases hlt : v < n
    · obtain ⟨b, o, rfl, hb, hcell⟩ := hmW (by intro e; rw [e] at hml; simp at hml; omega)
      have hk := hcell v (by omega)
      have hat := HAt.out v hlt
      have i0 : (0 : Int) ≤ (v : Int) := by omega
      have i1 : (v : Int) < (n : Int) := by omega
      have hle : decide ((v : Int) + 1 ≤ (n : Int)) = true := by simp; omega
      generalize zs.getD v 0 = x at *
      clear hcell
      rcases hat with rfl | rfl
      · have e1 : (((v + 1 : Nat) : Int) != ((v : Int) + 1)) = false := by simp
        go_wp2
        go_round
        case rel => exact ⟨v + 1, by omega, by go_num⟩
        case measure => simp [intOf]; omega
      · have e1 : ((-((v + 1 : Nat) : Int)) != ((v : Int) + 1)) = true := by simp; omega
        have e2 : ((-((v + 1 : Nat) : Int)) != (-((v : Int) + 1))) = false := by simp
        go_wp2
        go_round
        case rel => exact ⟨v + 1, by omega, by go_num⟩
        case measure => simp [intOf]; omega
    · obtain rfl : v = n := by omega
      have hle : decide ((v : Int) + 1 ≤ (v : Int)) = false := by simp; omega
      go_wp2
      go_loop [6] (fun x => ∃ i : Nat, i ≤ cs.length ∧ x = .int .i64 i) (fun x => cs.length - (intOf x).toNat)
      case atStart => exact ⟨0, Nat.zero_le _, rfl⟩
      case round =>
        obtain ⟨i, hi, rfl⟩ := hrel
        by_cases hlt2 : i < cs.length
        · obtain ⟨b, o, rfl, hb, hcell⟩ := hcW (by intro e; rw [e] at hlt2; simp at hlt2)
          obtain ⟨A, Cc, hck, hin⟩ := hcell i hlt2
          have hmem : cs.getD i [] ∈ cs := mem_lists hlt2
          have hlc := hlit _ hmem
          have hec := heach _ hmem
          have HOk : Hid (anyAt zs (cs.getD i []) (cs.getD i []).length = true) := by
            obtain ⟨l, hl, -, e⟩ := hok _ hmem
            unfold Hid anyAt
            rw [List.take_length, List.any_eq_true]
            exact ⟨l, hl, by rw [e]; simp⟩
          generalize cs.getD i [] = c at *
          clear hcell hmem
          have i2 : (0 : Int) ≤ (i : Int) := by omega
          have i3 : (i : Int) < (cs.length : Int) := by omega
          go_wp2
          go_loop [7, 8] (fun y x => ∃ k : Nat, k ≤ c.length ∧ x = .int .i64 k ∧ y = .bool (anyAt zs c k)) (fun _ x => c.length - (intOf x).toNat)
          case atStart => exact ⟨0, Nat.zero_le _, rfl, by simp [anyAt]⟩
          case round =>
            obtain ⟨k, hk, rfl, rfl⟩ := hrel
            by_cases hlt3 : k < c.length
            · obtain ⟨b2, o2, rfl, hb2, hcell2⟩ := hin (by intro e; rw [e] at hlt3; simp at hlt3)
              have hx := hcell2 k hlt3
              have hxl : IsLit v (c.getD k 0) := hlc _ (by rw [getD_lt _ _ _ hlt3]; exact List.getElem_mem hlt3)
              have HSu : Hid (anyAt zs c (k + 1) = (anyAt zs c k || (zs.getD (pl (c.getD k 0) / 2) 0 == c.getD k 0))) := anyAt_succ hlt3
              have cH := holds_any mo mc zs (c.getD k 0) W w.heap.size hmW (by rw [hml]; exact hxl) (by omega)
              rw [hml] at cH
              generalize c.getD k 0 = l at *
              generalize (zs.getD (pl l / 2) 0 == l) = h at *
              have i4 : (0 : Int) ≤ (k : Int) := by omega
              have i5 : (k : Int) < (c.length : Int) := by omega
              clear hcell2
              cases hA : anyAt zs c k with
              | true =>
                rw [hA] at HSu
                clear hA
                go_wp2_with (go_at_call 117; refine cH.mono ?_; rintro e w' ⟨rfl, hw'⟩; obtain rfl := hw'.symm)
                go_round
                case rel => exact ⟨k + 1, by omega, by go_num, by rw [HSu.out]; rfl⟩
                case measure => simp [intOf]; omega
              | false =>
                rw [hA] at HSu
                clear hA
                go_wp2_with (go_at_call 117; refine cH.mono ?_; rintro e w' ⟨rfl, hw'⟩; obtain rfl := hw'.symm)
                go_round
                case rel => exact ⟨k + 1, by omega, by go_num, by rw [HSu.out]; rfl⟩
                case measure => simp [intOf]; omega
            · obtain rfl : k = c.length := by omega
              rw [HOk.out]
              go_wp2
              go_round
              case rel => exact ⟨i + 1, by omega, by go_num⟩
              case measure => simp [intOf]; omega
        · obtain rfl : i = cs.length := by omega
          go_wp2
          go_ret
          exact ⟨rfl, hw1⟩
end Go.Proofs.YtomebpjjeldhdaaDoor
