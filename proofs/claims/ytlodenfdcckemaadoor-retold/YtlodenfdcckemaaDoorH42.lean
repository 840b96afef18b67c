/-
  The walk of the program's order of variables.
-/
import Derived.Test.YtlodenfdcckemaaDoorH41
import Derived.Test.YtlodenfdcckemaaDoorH8
namespace Go.Proofs.YtlodenfdcckemaaDoor
open Go.RowKit

attribute [local go_sem] run_store_float

theorem riseL_length : ∀ (f : Nat) (l : List Itm) (k : Nat), (riseL f l k).length = l.length
  | 0, _, _ => rfl
  | f + 1, l, k => by
    unfold riseL
    split
    · rfl
    · split
      · rw [riseL_length f, swapL_length]
      · rfl

theorem sinkL_length : ∀ (f : Nat) (l : List Itm) (k : Nat), (sinkL f l k).length = l.length
  | 0, _, _ => rfl
  | f + 1, l, k => by
    unfold sinkL
    split
    · rfl
    · rw [sinkL_length f, swapL_length]

/-- The heap when the first i variables are in. -/
def built (wt : Nat → Nat) : Nat → List Itm
  | 0 => []
  | i + 1 => riseL (i + 1) (built wt i ++ [((i : Int) + 1, wt i)]) i

theorem built_length (wt : Nat → Nat) : ∀ i, (built wt i).length = i
  | 0 => rfl
  | i + 1 => by rw [built, riseL_length]; simp [built_length wt i]

/-- What comes out of a heap. -/
def drain : Nat → List Itm → List Int
  | 0, _ => []
  | f + 1, l => (l.getD 0 (0, 0)).1 :: drain f (sinkL (l.length - 1) (popL l) 0)

theorem HeapAt.push {w w' : World} {H : Nat} {v : Value} {wt : Nat → Nat} {k : Nat} {g cap : Nat} (_h : HeapAt w H v (built wt k)) (h : HeapIn w' H g cap (riseL ((built wt k).length + 1) (built wt k ++ [((k : Int) + 1, wt k)]) (built wt k).length)) :
    HeapAt w' H (.slice (some ⟨g, 0, none⟩) (k + 1) cap) (built wt (k + 1)) := by
  rw [built_length] at h
  exact Or.inr ⟨g, cap, by rw [built_length], h⟩

theorem HeapAt.low {w : World} {H : Nat} {v : Value} {its : List Itm} (h : HeapAt w H v its) {k : Nat} (e : v.ownBlock = some k) : H < k ∧ k < w.heap.size := by
  have := h.own.lt k e
  omega

def lenOf : Value → Nat | .slice _ n _ => n | _ => 0

theorem HeapAt.inn {w : World} {H : Nat} {v : Value} {its : List Itm} (h : HeapAt w H v its) (h0 : 0 < its.length) : ∃ g cap, v = .slice (some ⟨g, 0, none⟩) its.length cap ∧ HeapIn w H g cap its := by
  rcases h with ⟨_, h, _⟩ | h
  · rw [h] at h0; simp at h0
  · exact h

theorem HeapIn.alloc {w : World} {H g cap : Nat} {its : List Itm} (h : HeapIn w H g cap its) (o : Obj) : HeapIn (w.alloc o) H g cap its := h.below' ((Below.refl _ _).alloc (Nat.le_refl _) o)
theorem HeapIn.grown {w w' : World} {H g cap : Nat} {its : List Itm} {r : Nat} (h : HeapIn w H g cap its) (hg : w.grownBy w' (Option.some r)) (h1 : r ≠ H) (h2 : r ≠ g) : HeapIn w' H g cap its :=
  ⟨h.head.grown hg (by simpa using h1), h.row.elim fun x hx => ⟨x, hx.1.grown hg (by simpa using h2), hx.2⟩, h.lt, h.cap63, h.le, h.some20, h.some⟩
theorem HeapIn.toAt {w : World} {H g cap : Nat} {its : List Itm} (h : HeapIn w H g cap its) : HeapAt w H (.slice (Option.some ⟨g, 0, none⟩) its.length cap) its := Or.inr ⟨g, cap, rfl, h⟩

theorem row1_full {w : World} {g cap : Nat} {t : TypeId} {xs : List Value} (h : Row1 w g t cap xs) (hl : xs.length = cap) : Blk w g t xs := by
  obtain ⟨r, h1, h2⟩ := h
  have : r = [] := by rw [List.length_append] at h2; exact List.eq_nil_of_length_eq_zero (by omega)
  rw [this, List.append_nil] at h1
  exact h1

set_option maxHeartbeats 1000000 in
theorem order_any (n : Nat) (ao : Option Addr) (cap : Nat) (cs : List (List Int)) (w : World) (hc : ListsAt w w.heap.size ao cs) (hg : Good n cs) :
    Calls Tryd.prog 114 #[.agg #[.int .i64 n, .slice ao cs.length cap]] w fun e w' => ∃ g, e = .returned (.slice (some ⟨g, 0, none⟩) n n) ∧ w.heap.size ≤ g ∧
      Blk w' g 3 ((drain n (built (weight cs) n)).map (Value.int .i64)) ∧ Below w.heap.size w w' := by
  have hn := hg.vars
  have hw1 : Below w.heap.size w (w.alloc (.cells #[.int .i64 n, .slice ao cs.length cap] 31)) := (Below.refl _ _).alloc (Nat.le_refl _) _
  have B0 := blk_new w [.int .i64 n, .slice ao cs.length cap] 31
  have hW0 : (w.alloc (.cells #[.int .i64 n, .slice ao cs.length cap] 31)).heap.size = w.heap.size + 1 := by simp
  go_enter Tryd.func114, Tryd.ntmps114
  go_wp2_with fail
  change Blk (w.alloc (.cells #[.int .i64 n, .slice ao cs.length cap] 31)) w.heap.size 31 _ at B0
  generalize w.alloc (.cells #[.int .i64 n, .slice ao cs.length cap] 31) = W at *
  refine (newHeap_any W).mono ?_
  rintro e w1 ⟨rfl, hH1, hb1⟩
  have hbw1 := hw1.trans (hb1.mono (by omega))
  have B1 := B0.below' hb1
  have c0 : w1.cell? ⟨w.heap.size, 0, none⟩ = some (.int .i64 n) := B1.cell (i := 0) (by simp) undef
  have c1 : w1.cell? ⟨w.heap.size, 1, none⟩ = some (.slice ao cs.length cap) := B1.cell (i := 1) (by simp) undef
  have hc1 := (hc.below hbw1 (Nat.le_refl _)).mono hbw1.size
  have HS : Hid (W.heap.size = w.heap.size + 1) := hW0
  clear hW0 hc
  go_wp2_with fail
  refine (ofVariables_any n ao cap cs w1 hc1 hg).mono ?_
  rintro e w2 ⟨g2, rfl, hg2, hB2, hb2⟩
  have hH2 : HeapAt w2 W.heap.size (.slice none 0 0) [] := Or.inl ⟨rfl, rfl, hH1.head.below' hb2⟩
  have B2 := B1.below' hb2
  have hbw2 := hbw1.trans (hb2.mono hbw1.size)
  have hHg : W.heap.size < g2 := Nat.lt_of_lt_of_le hH1.head.lt hg2
  clear c0 c1 hc1 B1 B0 hH1 hb1 hb2 hw1
  go_wp2
  go_loopw [13] (fun i wr => ∃ (k : Nat) (v : Value), k ≤ n ∧ i = .int .i64 k ∧ HeapAt wr W.heap.size v (built (weight cs) k) ∧ v.ownBlock ≠ some g2 ∧ Blk wr g2 159 (varCells n cs n) ∧ Blk wr w.heap.size 31 [.int .i64 n, .slice ao cs.length cap] ∧ Below w.heap.size w wr) (fun i _ => n - (intOf i).toNat)
  case atStart => exact ⟨0, _, by omega, rfl, hH2, by simp [Value.ownBlock], hB2, B2, hbw2⟩
  case round =>
    clear hH2 hB2 B2
    obtain ⟨k, v, hk, rfl, hHv, hv2, hBv, hB0, hb⟩ := hrel
    by_cases hlt : k < n
    · have hcell := hBv.cell (i := k) (by simp [varCells]; omega) undef
      have hval : (varCells n cs n).getD k undef = .float .f64 (Fl.W (weight cs k)) := by unfold varCells; rw [range_getD _ _ _ _ hlt, if_pos hlt]
      rw [hval] at hcell
      have hwt := hg.weight_le k
      clear hval
      go_wp2_with fail
      refine (push_any W.heap.size v (built (weight cs) k) ((k : Int) + 1, weight cs k) wr hHv (by rw [built_length]; omega) (by simp only; omega)).mono ?_
      rintro e w3 ⟨rfl, g3, cap3, hH3, hg3, hfr3, hbl3⟩
      have hH3' := hHv.push hH3
      go_wp2
      go_roundw
      case rel =>
        refine ⟨k + 1, _, by omega, by go_num, hH3', ?_, ?_, ?_, hb.trans (hbl3.mono (by have := HS.out; omega))⟩
        · intro e
          simp [Value.ownBlock] at e
          rcases hg3 with h | h
          · exact hv2 (by rw [h, e])
          · have := hBv.lt; omega
        · exact hBv.of_block (hfr3 g2 hBv.lt (by omega) hv2)
        · exact hB0.of_block (hfr3 _ hB0.lt (by have := HS.out; omega) (fun e => by have := (hHv.low e).1; have := HS.out; omega))
      case measure => simp [intOf]; omega
    · obtain rfl : k = n := by omega
      have c0 : wr.cell? ⟨w.heap.size, 0, none⟩ = some (.int .i64 k) := hB0.cell (i := 0) (by simp) undef
      go_wp2_with (at_make; refine wpList_make_blk2 _ rfl (.const (.int .i64 0)) (.tmp 26) 24 rfl 3 (.int .i64 0) 8 Tryd.underlying24 Tryd.info3 rfl .i64 .i64 0 k _ _ rfl rfl (by omega) (by omega) (by omega) (by omega) (by omega) ?_; intro w4 hB4 hb4 hs4)
      have hsz3 : (Tryd.prog.info? 3).map (·.size) = some 1 := by kernel_rfl
      have hbw4 := hb.trans (hb4.mono hb.size)
      have hH4 : HeapAt w4 W.heap.size v (built (weight cs) k) := by
        rcases hHv with ⟨h1, h2, h3⟩ | ⟨gg, cc, h1, h2⟩
        · exact Or.inl ⟨h1, h2, h3.below' hb4⟩
        · exact Or.inr ⟨gg, cc, h1, h2.below' hb4⟩
      have hvG : v.ownBlock ≠ some wr.heap.size := fun e => by have := (hHv.low e).2; omega
      have hGH : W.heap.size < wr.heap.size := hHv.head.lt
      have hGw : w.heap.size ≤ wr.heap.size := hb.size
      have hR4 : Row1 w4 wr.heap.size 3 k (([] : List Int).map (Value.int .i64)) := ⟨_, hB4, by simp⟩
      generalize wr.heap.size = G at *
      go_loopw [6] (fun x wr => ∃ (outs : List Int) (l : List Itm) (v : Value), outs.length + l.length = k ∧ x = .slice (some ⟨G, 0, none⟩) outs.length k ∧ HeapAt wr W.heap.size v l ∧ v.ownBlock ≠ some G ∧ Row1 wr G 3 k (outs.map (Value.int .i64)) ∧ Hid (drain k (built (weight cs) k) = outs ++ drain l.length l) ∧ Below w.heap.size w wr) (fun x _ => k - lenOf x)
      case atStart => exact ⟨[], built (weight cs) k, v, by simp [built_length], rfl, hH4, hvG, hR4, by unfold Hid; rw [built_length]; rfl, hbw4⟩
      case round =>
        clear hH4 hR4 hB4 hHv hBv hB0 hv2 hb hbw2 hs4 hvG hbw4
        obtain ⟨outs, l, v, hlen, rfl, hHv, hvG, hR, hD, hb⟩ := hrel
        have hsm := hHv.small.1
        by_cases h0 : 0 < l.length
        · obtain ⟨g5, cap5, rfl, hI⟩ := hHv.inn h0
          go_wp2_with fail
          refine (len_any W.heap.size _ l _ hHv).mono ?_
          rintro e w' ⟨rfl, rfl⟩
          go_wp2_with fail
          refine (pop_any W.heap.size g5 cap5 l _ hI h0).mono ?_
          rintro e w5 ⟨rfl, hI5, hfr5, hbl5⟩
          have hgG : g5 ≠ G := by simpa [Value.ownBlock] using hvG
          have hR5 := hR.of_block (hfr5 G hR.lt (by omega) (fun e => hgG e.symm))
          obtain ⟨f, hf⟩ : ∃ f, l.length = f + 1 := ⟨l.length - 1, by omega⟩
          have hdr : drain (f + 1) l = (l.getD 0 (0, 0)).1 :: drain f (sinkL (l.length - 1) (popL l) 0) := rfl
          obtain ⟨x0, hx0⟩ : ∃ x0, x0 = l.getD 0 (0, 0) := ⟨_, rfl⟩
          rw [← hx0] at hdr ⊢
          have HDR : Hid _ := hdr
          have HF : Hid (l.length = f + 1) := hf
          have hol : outs.length + 1 ≤ k := by omega
          have HDD : Hid (drain k (built (weight cs) k) = outs ++ drain l.length l) := hD
          clear hx0 hdr hf hR hI hfr5 hD
          have hRa := (hR5.alloc (Obj.cells #[Value.int IntKind.i64 x0.1, Value.float FloatKind.f64 (Fl.W x0.2)] 170)).alloc (Obj.cells #[Value.int IntKind.i64 x0.1] 3)
          have hIa := (hI5.alloc (Obj.cells #[Value.int IntKind.i64 x0.1, Value.float FloatKind.f64 (Fl.W x0.2)] 170)).alloc (Obj.cells #[Value.int IntKind.i64 x0.1] 3)
          have hba : Below w.heap.size w ((w5.alloc (Obj.cells #[Value.int IntKind.i64 x0.1, Value.float FloatKind.f64 (Fl.W x0.2)] 170)).alloc (Obj.cells #[Value.int IntKind.i64 x0.1] 3)) :=
            ((hb.trans (hbl5.mono (by have := HS.out; omega))).alloc (by have := hb.size; have := hbl5.size; omega) _).alloc (by have := hb.size; have := hbl5.size; simp; omega) _
          have HRa : Hid _ := hRa
          clear hRa hR5
          go_wp2_with (at_builtin; refine wpList_append_one (.tmp 36) (.tmp 39) 24 3 Tryd.underlying24 hsz3 G k (w5.heap.size + 1) (outs.map (Value.int .i64)) (.int .i64 x0.1) outs.length (by simp) (by rfl) (by rfl) HRa.out (by unfold maxLen; omega) (by simp) rfl hol ?_; intro w6 hR6 hg6)
          go_roundw
          case rel =>
            have hI6 := hIa.grown hg6 (by omega) (fun e => hgG e.symm)
            refine ⟨outs ++ [x0.1], sinkL (l.length - 1) (popL l) 0, _, ?_, by simp, hI6.toAt, ?_, by simpa using hR6, ?_, hba.grown hg6 ?_ ?_⟩
            · rw [sinkL_length, popL_length, List.length_append, HF.out]; simp; have := HF.out; omega
            · simpa [Value.ownBlock] using hgG
            · show drain k (built (weight cs) k) = _
              rw [HDD.out, HF.out, HDR.out, sinkL_length, popL_length, HF.out, List.append_assoc]
              rfl
            · have := hba.size; omega
            · intro j e; simp at e; omega
          case measure => simp [lenOf]; omega
        · have hl0 : l = [] := List.eq_nil_of_length_eq_zero (by omega)
          subst hl0
          go_wp2_with fail
          refine (len_any W.heap.size _ [] _ hHv).mono ?_
          rintro e w' ⟨rfl, rfl⟩
          go_wp2
          go_ret
          simp only [List.length_nil, Nat.add_zero] at hlen
          refine ⟨G, by rw [← hlen]; rfl, hGw, ?_, hb⟩
          have hd := hD.out
          simp only [List.length_nil, drain, List.append_nil] at hd
          rw [hd]
          exact row1_full hR (by simp [hlen])
end Go.Proofs.YtlodenfdcckemaaDoor
