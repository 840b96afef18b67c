/-
  The walks of choose and of a conflict.
-/
import Derived.Test.YtomebpjjeldhdaaDoorSeaB
namespace Go.Proofs.YtomebpjjeldhdaaDoor
open Go.RowKit Go.Shelf

theorem find_at {p : Nat → Bool} : ∀ {l : List Nat} {i : Nat}, i < l.length → (∀ j, j < i → p (l.getD j 0) = false) → p (l.getD i 0) = true → l.find? p = some (l.getD i 0)
  | [], _, h, _, _ => by simp at h
  | x :: l, 0, _, _, h => by simp at h; simp [h]
  | x :: l, i + 1, hi, hj, h => by
    have h0 := hj 0 (by omega)
    simp at h0
    rw [List.find?_cons, h0]
    exact find_at (by simpa using hi) (fun j h' => by have := hj (j + 1) (by omega); simpa using this) (by simpa using h)

theorem find_none {p : Nat → Bool} {l : List Nat} (h : ∀ j, j < l.length → p (l.getD j 0) = false) : l.find? p = none := by
  rw [List.find?_eq_none]
  intro x hx
  obtain ⟨j, hj, rfl⟩ := List.getElem_of_mem hx
  have := h j hj
  rw [getD_lt _ _ _ hj] at this
  rw [this]; decide

/-- What choose does. -/
def Chosen (X : Nat) (a0 a1 v : Value) (ch : List Nat) (P : List Pk) (w : World) (e : Ending) (w' : World) : Prop :=
  (chooseOf ch (truthOf P) = none ∧ e = .returned (.bool false) ∧ Below w.heap.size w w') ∨
  ∃ l v', chooseOf ch (truthOf P) = some l ∧ e = .returned (.bool true) ∧ SeaAt w' X a0 a1 v' (truthOf P ||| l) (lv P + 1) (⟨l, 0, lv P + 1⟩ :: P) ∧ Chg (fun b => b = X ∨ v.ownBlock = some b) w w' ∧ (∀ b, v'.ownBlock = some b → v.ownBlock = some b ∨ w.heap.size ≤ b)

set_option maxRecDepth 100000 in
set_option maxHeartbeats 2000000 in
theorem choose_any (X : Nat) (a0 a1 v : Value) (ch : List Nat) (P : List Pk) (w : World) (h : SeaAt w X a0 a1 v (truthOf P) (lv P) P) (hch : Own w 0 84 a1 (svs ch)) (hl : ch.length ≤ 1000) (hc64 : ∀ l ∈ ch, l < 18446744073709551616) (hT : truthOf P < 18446744073709551616) (hn : P.length < 64) :
    Calls Tryd.prog 95 #[.pointer (some ⟨X, 0, none⟩)] w (Chosen X a0 a1 v ch P w) := by
  have hx1 : w.cell? ⟨X, 1, none⟩ = some a1 := h.head.cell (i := 1) (by simp) undef
  have hx3 : w.cell? ⟨X, 3, none⟩ = some (sv (truthOf P)) := h.head.cell (i := 3) (by simp) undef
  have hx4 : w.cell? ⟨X, 4, none⟩ = some (.int .i64 (lv P)) := h.head.cell (i := 4) (by simp) undef
  have hf4 := h.head.frozen 4
  have hlv : lv P ≤ 64 := Nat.le_trans (lv_le P) (by omega)
  obtain ⟨ao, cap, hsh, hat⟩ := hch.cellsAt
  simp only [List.length_map] at hsh hat
  rw [hsh] at hx1
  have ho64 := opp_lt64 (truthOf P)
  have hor := or_spell (truthOf P) (opp (truthOf P)) hT ho64
  have c1 := opposites_any (truthOf P) hT
  have hor64 : truthOf P ||| opp (truthOf P) < 18446744073709551616 := Nat.or_lt_two_pow (n := 64) hT ho64
  have HCh : Hid (chooseOf ch (truthOf P) = ch.find? fun l => !within l (truthOf P ||| opp (truthOf P))) := rfl
  have HH : Hid (SeaAt w X a0 a1 v (truthOf P) (lv P) P) := h
  have HT : Hid (truthOf P < 18446744073709551616) := hT
  clear h hch
  unfold Chosen
  generalize chooseOf ch (truthOf P) = res at *
  generalize opp (truthOf P) = oT at *
  generalize truthOf P = T at *
  generalize T ||| oT = M at *
  generalize lv P = L at *
  go_enter Tryd.func95, Tryd.ntmps95
  go_wp2
  go_loopw [10] (fun x wr => ∃ (i : Nat), i ≤ ch.length ∧ x = .int .i64 i ∧ Hid (∃ m, wr = w.drewN m) ∧ Hid (∀ j, j < i → (!within (ch.getD j 0) M) = false)) (fun x _ => ch.length - (intOf x).toNat)
  case atStart => exact ⟨0, Nat.zero_le _, rfl, ⟨0, rfl⟩, fun j hj => absurd hj (Nat.not_lt_zero _)⟩
  case round =>
    obtain ⟨i, hi, rfl, HD, HJ⟩ := hrel
    by_cases hlt : i < ch.length
    · obtain ⟨gg, rfl, hgg, hcells, -⟩ := hat (by omega)
      have hck := hcells i hlt
      rw [svs_get hlt] at hck
      have hkm : ch.getD i 0 ∈ ch := mem_getD hlt
      have hk64 := hc64 _ hkm
      have HF : Hid ((!within (ch.getD i 0) M) = true → ch.find? (fun l => !within l M) = some (ch.getD i 0)) := fun h => find_at hlt HJ.out h
      have HN : Hid ((!within (ch.getD i 0) M) = false → ∀ j, j < i + 1 → (!within (ch.getD j 0) M) = false) := fun h j hj => by
        rcases Nat.lt_succ_iff_lt_or_eq.1 hj with h1 | h1
        · exact HJ.out j h1
        · rw [h1]; exact h
      generalize ch.getD i 0 = k at *
      have qck : wr.cell? ⟨gg, i, none⟩ = some (sv k) := by obtain ⟨m, rfl⟩ := HD.out; exact hck
      have q3 : wr.cell? ⟨X, 3, none⟩ = some (sv T) := by obtain ⟨m, rfl⟩ := HD.out; exact hx3
      have c3 := within_any k M hk64 hor64
      clear hcells hat hkm hck
      cases hw : within k M with
      | true =>
        rw [hw] at c3 HN
        clear hw HF
        go_wp2
        go_quiet (first | (go_at_call 85; exact Calls.quiet_of_same (c1 _)) | (go_at_call 87; exact Calls.quiet_of_same (c3 _)))
        go_wp2
        go_roundw
        case rel => exact ⟨i + 1, by omega, by go_num, by obtain ⟨m, rfl⟩ := HD.out; exact ⟨_, World.drewN_drewN _ _ _⟩, HN.out rfl⟩
        case measure => simp [intOf]; omega
      | false =>
        rw [hw] at c3 HF
        have HF' : Hid (res = some k) := by unfold Hid; rw [HCh.out]; exact HF.out rfl
        clear hw HF HN HCh
        have cput := put_any X a0 a1 v T (L + 1) P k 0
        have q4 : wr.cell? ⟨X, 4, none⟩ = some (.int .i64 L) := by obtain ⟨m, rfl⟩ := HD.out; exact hx4
        have f4 : wr.frozen? ⟨X, 4, none⟩ = false := by obtain ⟨m, rfl⟩ := HD.out; exact hf4
        have hS2 : ∀ nq, SeaAt ((wr.drewN nq).setCell ⟨X, 4, none⟩ (.int .i64 ((L : Int) + 1))) X a0 a1 v T (L + 1) P := fun nq => by
          obtain ⟨m, rfl⟩ := HD.out
          have hne : v.ownBlock ≠ some X := HH.out.row.ne_blk HH.out.head (by decide)
          exact ⟨(show Blk ((w.drewN m).drewN nq) X _ _ from HH.out.head).set 4 _, Row3.of_block (w := w) HH.out.row fun b e => Below.heap_setCell ((w.drewN m).drewN nq) _ _ _ (fun e' => hne (by rw [e]; exact congrArg some e'))⟩
        have HB : Hid (∀ nq (x : Value), Chg (fun b => b = X ∨ v.ownBlock = some b) w ((wr.drewN nq).setCell ⟨X, 4, none⟩ x)) := fun nq x => by
          obtain ⟨m, rfl⟩ := HD.out
          exact (((Chg.refl _ w).drewN m).drewN nq).setB X 4 (Or.inl rfl) _
        have HSz : Hid (∀ nq (x : Value), w.heap.size ≤ ((wr.drewN nq).setCell ⟨X, 4, none⟩ x).heap.size) := fun nq x => (HB.out nq x).size
        go_wp2
        go_quiet (first | (go_at_call 85; exact Calls.quiet_of_same (c1 _)) | (go_at_call 87; exact Calls.quiet_of_same (c3 _)))
        go_wp2_with (go_at_call 113; refine (cput _ (hS2 _) hn HT.out hk64).mono ?_; rintro e w1 ⟨rfl, v', hs1, hc1, ho1⟩)
        go_ret
        refine Or.inr ⟨k, v', HF'.out, rfl, hs1, (HB.out _ _).trans hc1, fun b e => ?_⟩
        rcases ho1 b e with h3 | h3
        · exact Or.inl h3
        · exact Or.inr (Nat.le_trans (HSz.out _ _) h3)
    · obtain rfl : i = ch.length := by omega
      have HF' : Hid (res = none) := by unfold Hid; rw [HCh.out]; exact find_none HJ.out
      go_wp2
      go_ret
      exact Or.inl ⟨HF'.out, rfl, by obtain ⟨m, rfl⟩ := HD.out; exact below_drewN _ _ _⟩
end Go.Proofs.YtomebpjjeldhdaaDoor
