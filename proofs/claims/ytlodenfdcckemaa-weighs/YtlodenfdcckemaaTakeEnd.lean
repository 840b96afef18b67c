/-
  What the books' take leaves.
-/
import Derived.Test.YtlodenfdcckemaaBooks
namespace Go.Proofs.Ytlodenfdcckemaa
open Go.RowKit

theorem slices_one (vs : List Value) (h : ∀ v ∈ vs, ∃ a n c, v = .slice a n c) : ∀ u ∈ vs, u.oneCell' = true := by
  intro u hu
  obtain ⟨a, n, c, rfl⟩ := h u hu
  rfl

def mcells (n : Nat) (m : Int) : List Value := List.replicate n (.int .i64 m)

theorem mcells_get (n : Nat) (m : Int) (i : Nat) (h : i < n) : (mcells n m).getD i undef = .int .i64 m := by simp [mcells, h]
theorem mcells_one (n : Nat) (m : Int) : ∀ u ∈ mcells n m, u.oneCell' = true := by
  intro u hu
  rw [mcells] at hu
  rw [(List.mem_replicate.1 hu).2]
  rfl
theorem mcells_append (n k : Nat) (m : Int) : mcells n m ++ mcells k m = mcells (n + k) m := by simp [mcells]

/-- The elements as they are written over, one by one. -/
def over (zs : List Int) (m : Int) (k : Nat) : List Value := mcells k m ++ (zs.drop k).map (Value.int .i64)
theorem over_zero (zs : List Int) (m : Int) : over zs m 0 = zs.map (Value.int .i64) := by simp [over, mcells]
theorem over_end (zs : List Int) (m : Int) : over zs m zs.length = mcells zs.length m := by simp [over]
theorem over_length (zs : List Int) (m : Int) (k : Nat) (h : k ≤ zs.length) : (over zs m k).length = zs.length := by simp [over, mcells]; omega
theorem over_set (zs : List Int) (m : Int) (k : Nat) (h : k < zs.length) : (over zs m k).set k (.int .i64 m) = over zs m (k + 1) := by
  unfold over
  rw [List.set_append_right _ _ (by simp [mcells]), List.drop_eq_getElem_cons h]
  simp only [mcells, List.length_replicate, Nat.sub_self, List.map_cons, List.set_cons_zero, List.replicate_succ', List.append_assoc, List.cons_append, List.nil_append]

/-- A new list of marks, in a new block. -/
theorem mk_new {w : World} {G : Nat → Prop} {g cap n : Nat} {m : Int} (h : Row1 w g 3 cap (mcells n m)) (hn : n ≤ 1000) (hG : G g) : Mk w G (.slice (some ⟨g, 0, none⟩) n cap) m := by
  refine ⟨_, n, cap, rfl, hn, fun _ => ⟨g, rfl, hG, fun i hi => ?_⟩⟩
  rw [h.cell (i := i) (by simp [mcells, hi]) undef, mcells_get _ _ _ hi]

theorem lst_cells {w : World} {ao : Option Addr} {n : Nat} {m : Int} (h : 0 < n → ∃ g, ao = some ⟨g, 0, none⟩ ∧ Blk w g 3 (mcells n m)) : ∀ b, ao = some b → ∀ j u, (mcells n m)[j]? = some u → w.cell? (b.add j) = some u := by
  intro b hb j u hj
  have hjn : j < n := by
    have := (List.getElem?_eq_some_iff.1 hj).1
    simpa [mcells] using this
  obtain ⟨g, hg, hB⟩ := h (by omega)
  rw [hg] at hb
  cases hb
  rw [add_at, Nat.zero_add, hB.cell (i := j) (by simp [mcells, hjn]) undef, mcells_get _ _ _ hjn]
  have := List.getElem?_eq_some_iff.1 hj
  obtain ⟨_, hx⟩ := this
  rw [← hx]
  simp [mcells]

theorem lst_below {w w' : World} {ao : Option Addr} {n : Nat} {L : List Value} (h : 0 < n → ∃ g, ao = some ⟨g, 0, none⟩ ∧ Blk w g 3 L) (hb : Below w.heap.size w w') : 0 < n → ∃ g, ao = some ⟨g, 0, none⟩ ∧ Blk w' g 3 L := by
  intro h0
  obtain ⟨g, h1, h2⟩ := h h0
  exact ⟨g, h1, h2.below' hb⟩

theorem alloc_below (w : World) (o : Obj) : Below w.heap.size w (w.alloc o) := (Below.refl _ _).alloc (Nat.le_refl _) o
theorem alloc_size (w : World) (o : Obj) : (w.alloc o).heap.size = w.heap.size + 1 := by simp

/-- Behind the append to the list of lists, and its store. -/
theorem phaseB {w4 w5 : World} {O : Nat} {vl vm : Value} {G : Nat → Prop} {E : List (Value × Int)} {o : Obj} {L4 : List Value} {g5 c5 l5 : Nat} (hBk : BooksAt w4 O vl vm G E) (hO5 : Own w5 0 30 (.slice (some ⟨g5, 0, none⟩) l5 c5) (E.map (·.1) ++ L4))
    (hgr : (w4.alloc o).grownBy w5 vl.ownBlock) (hat : vl.ownBlock = some g5 ∨ g5 = (w4.alloc o).heap.size) :
    Blk (w5.setCell ⟨O, 0, none⟩ (.slice (some ⟨g5, 0, none⟩) l5 c5)) O 33 [.slice (some ⟨g5, 0, none⟩) l5 c5, vm, .slice none 0 0] ∧ Own (w5.setCell ⟨O, 0, none⟩ (.slice (some ⟨g5, 0, none⟩) l5 c5)) 0 30 (.slice (some ⟨g5, 0, none⟩) l5 c5) (E.map (·.1) ++ L4) ∧
      Own (w5.setCell ⟨O, 0, none⟩ (.slice (some ⟨g5, 0, none⟩) l5 c5)) 0 3 vm (E.map fun e => .int .i64 e.2) ∧ Chg (fun k => k = O ∨ vl.ownBlock = some k) w4 (w5.setCell ⟨O, 0, none⟩ (.slice (some ⟨g5, 0, none⟩) l5 c5)) ∧ g5 ≠ O ∧ vm.ownBlock ≠ some g5 ∧ g5 < w5.heap.size := by
  have hs4 := alloc_size w4 o
  have hOl := hBk.head.lt
  have hgO : g5 ≠ O := by
    rcases hat with h | h
    · exact fun e => hBk.dl (by rw [h, e])
    · omega
  have hB5 : Blk w5 O 33 [vl, vm, .slice none 0 0] := (hBk.head.alloc o).grown hgr hBk.dl
  have hC5 : Chg (fun k => k = O ∨ vl.ownBlock = some k) w4 w5 := (Chg.of_below (alloc_below w4 o)).trans (Chg.of_grown hgr (fun k e => Or.inr e))
  have hvm5 : vm.ownBlock ≠ some g5 := by
    intro e
    rcases hat with h | h
    · exact hBk.dlm _ h e
    · have := (hBk.om.lt e).2; omega
  have hset : Chg (fun k => k = O) w5 (w5.setCell ⟨O, 0, none⟩ (.slice (some ⟨g5, 0, none⟩) l5 c5)) := (Chg.refl (fun k => k = O) w5).set (p := ⟨O, 0, none⟩) rfl _
  refine ⟨hB5.set 0 _, hO5.chg hset (fun k e h => hgO (by simp [Value.ownBlock] at e; rw [e, h])), ?_, hC5.trans (hset.mono fun k _ h => Or.inl h), hgO, hvm5, (hO5.lt rfl).2⟩
  refine (hBk.om.chg hC5 ?_).chg hset (fun k e h => hBk.dm (by rw [e, h]))
  intro k e h
  rcases h with h | h
  · exact hBk.dm (by rw [e, h])
  · exact hBk.dlm _ h e

/-- Behind the append to the list of marks, and its store. -/
theorem phaseC {W5 w6 : World} {O : Nat} {v5 vm : Value} {o : Obj} {xs ys m4 : List Value} {g6 c6 l6 : Nat} (hB : Blk W5 O 33 [v5, vm, .slice none 0 0]) (hl : Own W5 0 30 v5 xs) (_hm : Own W5 0 3 vm ys) (h5O : v5.ownBlock ≠ some O) (hmO : vm.ownBlock ≠ some O) (h5m : ∀ k, v5.ownBlock = some k → vm.ownBlock ≠ some k)
    (hO6 : Own w6 0 3 (.slice (some ⟨g6, 0, none⟩) l6 c6) (ys ++ m4)) (hgr : (W5.alloc o).grownBy w6 vm.ownBlock) (hat : vm.ownBlock = some g6 ∨ g6 = (W5.alloc o).heap.size) :
    Blk (w6.setCell ⟨O, 1, none⟩ (.slice (some ⟨g6, 0, none⟩) l6 c6)) O 33 [v5, .slice (some ⟨g6, 0, none⟩) l6 c6, .slice none 0 0] ∧ Own (w6.setCell ⟨O, 1, none⟩ (.slice (some ⟨g6, 0, none⟩) l6 c6)) 0 30 v5 xs ∧
      Own (w6.setCell ⟨O, 1, none⟩ (.slice (some ⟨g6, 0, none⟩) l6 c6)) 0 3 (.slice (some ⟨g6, 0, none⟩) l6 c6) (ys ++ m4) ∧ Chg (fun k => k = O ∨ vm.ownBlock = some k) W5 (w6.setCell ⟨O, 1, none⟩ (.slice (some ⟨g6, 0, none⟩) l6 c6)) ∧ g6 ≠ O ∧ v5.ownBlock ≠ some g6 := by
  have hs4 := alloc_size W5 o
  have hOl := hB.lt
  have hgO : g6 ≠ O := by
    rcases hat with h | h
    · exact fun e => hmO (by rw [h, e])
    · omega
  have hB6 : Blk w6 O 33 [v5, vm, .slice none 0 0] := (hB.alloc o).grown hgr hmO
  have hC6 : Chg (fun k => k = O ∨ vm.ownBlock = some k) W5 w6 := (Chg.of_below (alloc_below W5 o)).trans (Chg.of_grown hgr (fun k e => Or.inr e))
  have hv5 : v5.ownBlock ≠ some g6 := by
    intro e
    rcases hat with h | h
    · exact h5m _ e h
    · have := (hl.lt e).2; omega
  have hset : Chg (fun k => k = O) w6 (w6.setCell ⟨O, 1, none⟩ (.slice (some ⟨g6, 0, none⟩) l6 c6)) := (Chg.refl (fun k => k = O) w6).set (p := ⟨O, 1, none⟩) rfl _
  refine ⟨hB6.set 1 _, ?_, hO6.chg hset (fun k e h => hgO (by simp [Value.ownBlock] at e; rw [e, h])), hC6.trans (hset.mono fun k _ h => Or.inl h), hgO, hv5⟩
  refine (hl.chg hC6 ?_).chg hset (fun k e h => h5O (by rw [e, h]))
  intro k e h
  rcases h with h | h
  · exact h5O (by rw [e, h])
  · exact h5m _ e h

theorem blk_new_set (w : World) (O : Nat) (v : Value) (L : List Value) : Blk ((w.setCell ⟨O, 0, none⟩ v).alloc (.cells L.toArray 3)) w.heap.size 3 L := by
  have := blk_new (w.setCell ⟨O, 0, none⟩ v) L 3
  rwa [show (w.setCell ⟨O, 0, none⟩ v).heap.size = w.heap.size by simp [World.setCell]] at this

theorem mk_first {w : World} {G : Nat → Prop} {ao : Option Addr} {n : Nat} {m : Int} (h : 0 < n → ∃ g, ao = some ⟨g, 0, none⟩ ∧ Blk w g 3 (mcells n m)) (hn : n ≤ 1000) (hG : ∀ k, 0 < n → Of ao k → G k) : Mk w G (.slice ao n n) m := by
  refine ⟨ao, n, n, rfl, hn, fun h0 => ?_⟩
  obtain ⟨g, h1, h2⟩ := h h0
  exact ⟨g, h1, hG g h0 h1, fun i hi => by rw [h2.cell (i := i) (by simp [mcells, hi]) undef, mcells_get _ _ _ hi]⟩

theorem take_end {w w1 w2 w3 w4 w5 w6 : World} {O : Nat} {vl vm : Value} {G : Nat → Prop} {E : List (Value × Int)} {ao : Option Addr} {zs : List Int} {n : Nat} {m : Int} {o1 o2 o3 o4 o5 : Obj} {g2 g3 g4 g5 g6 cap2 cap3 cap4 cap5 cap6 : Nat}
    (hBk4 : BooksAt w4 O vl vm G E) (hb14 : Below w1.heap.size w1 w4) (hC0 : Chg (fun k => Foot O vl vm G k ∨ (zs ≠ [] ∧ Of ao k)) w w1) (hOv : 0 < n → ∃ g, ao = some ⟨g, 0, none⟩ ∧ Blk w1 g 3 (mcells n m)) (hz : n ≤ 900) (hpos : 0 < n ↔ zs ≠ [])
    (hdis : ∀ k, zs ≠ [] → Of ao k → ¬ Foot O vl vm G k) (hF1 : ∀ k, Foot O vl vm G k → k < w1.heap.size)
    (hR2 : Row1 w2 g2 3 cap2 (mcells (n + 1) m)) (hg2 : (w1.alloc o1).heap.size ≤ g2) (_hb2 : Below (w1.alloc o1).heap.size (w1.alloc o1) w2)
    (hR3 : Row1 w3 g3 3 cap3 (mcells (n + 2) m)) (hg3 : (w2.alloc o2).heap.size ≤ g3) (_hb3 : Below (w2.alloc o2).heap.size (w2.alloc o2) w3) (hb12 : Below w1.heap.size w1 w2) (hb23 : Below w2.heap.size w2 w3)
    (hR4 : Row1 w4 g4 3 cap4 (mcells (n + 3) m)) (hg4 : (w3.alloc o3).heap.size ≤ g4) (_hb4 : Below (w3.alloc o3).heap.size (w3.alloc o3) w4) (_hb13 : Below w1.heap.size w1 w3) (hb34 : Below w3.heap.size w3 w4)
    (hO5 : Own w5 0 30 (.slice (some ⟨g5, 0, none⟩) (E.length + 4) cap5) (E.map (·.1) ++ [.slice ao n n, .slice (some ⟨g2, 0, none⟩) (n + 1) cap2, .slice (some ⟨g3, 0, none⟩) (n + 2) cap3, .slice (some ⟨g4, 0, none⟩) (n + 3) cap4])) (hgr5 : (w4.alloc o4).grownBy w5 vl.ownBlock) (hat5 : vl.ownBlock = some g5 ∨ g5 = (w4.alloc o4).heap.size)
    (hO6 : Own w6 0 3 (.slice (some ⟨g6, 0, none⟩) (E.length + 4) cap6) ((E.map fun e => .int .i64 e.2) ++ mcells 4 m)) (hgr6 : ((w5.setCell ⟨O, 0, none⟩ (.slice (some ⟨g5, 0, none⟩) (E.length + 4) cap5)).alloc o5).grownBy w6 vm.ownBlock)
    (hat6 : vm.ownBlock = some g6 ∨ g6 = ((w5.setCell ⟨O, 0, none⟩ (.slice (some ⟨g5, 0, none⟩) (E.length + 4) cap5)).alloc o5).heap.size) :
    ∃ vl' vm' G' E', BooksAt (w6.setCell ⟨O, 1, none⟩ (.slice (some ⟨g6, 0, none⟩) (E.length + 4) cap6)) O vl' vm' G' E' ∧ E'.length = E.length + 4 ∧
      (∀ k, Foot O vl' vm' G' k → Foot O vl vm G k ∨ (zs ≠ [] ∧ Of ao k) ∨ w.heap.size ≤ k) ∧ Chg (fun k => Foot O vl vm G k ∨ (zs ≠ [] ∧ Of ao k)) w (w6.setCell ⟨O, 1, none⟩ (.slice (some ⟨g6, 0, none⟩) (E.length + 4) cap6)) := by
  obtain ⟨PB1, PB2, PB3, PB4, PB5, PB6, PB7⟩ := phaseB hBk4 hO5 hgr5 hat5
  obtain ⟨PC1, PC2, PC3, PC4, PC5, PC6⟩ := phaseC PB1 PB2 PB3 (by simpa [Value.ownBlock] using PB5) hBk4.dm (fun k e => by simp [Value.ownBlock] at e; rw [← e]; exact PB6) hO6 hgr6 hat6
  have z1 := alloc_size w1 o1
  have z2 := alloc_size w2 o2
  have z3 := alloc_size w3 o3
  have z4 := alloc_size w4 o4
  have z5 := alloc_size (w5.setCell ⟨O, 0, none⟩ (.slice (some ⟨g5, 0, none⟩) (E.length + 4) cap5)) o5
  have z5' : (w5.setCell ⟨O, 0, none⟩ (.slice (some ⟨g5, 0, none⟩) (E.length + 4) cap5)).heap.size = w5.heap.size := by simp [World.setCell]
  have s12 := hb12.size
  have s23 := hb23.size
  have s34 := hb34.size
  have s0 := hC0.size
  have s5 := hgr5.size
  have l2 := hR2.lt
  have l3 := hR3.lt
  have l4 := hR4.lt
  have hOl := hBk4.head.lt
  have hbk1 : ∀ k, Foot O vl vm G k → k < w4.heap.size := fun k hk => hBk4.foot_lt hk
  have hC4 : Chg (fun k => k = O ∨ vl.ownBlock = some k ∨ vm.ownBlock = some k) w4 (w6.setCell ⟨O, 1, none⟩ (.slice (some ⟨g6, 0, none⟩) (E.length + 4) cap6)) := by
    refine (PB4.mono fun k _ h => ?_).trans (PC4.mono fun k _ h => ?_)
    · rcases h with h | h
      · exact Or.inl h
      · exact Or.inr (Or.inl h)
    · rcases h with h | h
      · exact Or.inl h
      · exact Or.inr (Or.inr h)
  generalize w6.setCell ⟨O, 1, none⟩ (.slice (some ⟨g6, 0, none⟩) (E.length + 4) cap6) = wf at *
  have hkey : ∀ k, k < w4.heap.size → ¬ (k = O ∨ vl.ownBlock = some k ∨ vm.ownBlock = some k) → k ≠ O ∧ k ≠ g5 ∧ k ≠ g6 := by
    intro k hk hn
    refine ⟨fun e => hn (Or.inl e), fun e => ?_, fun e => ?_⟩
    · rcases hat5 with h | h
      · exact hn (Or.inr (Or.inl (by rw [h, e])))
      · omega
    · rcases hat6 with h | h
      · exact hn (Or.inr (Or.inr (by rw [h, e])))
      · omega
  have hOfl : ∀ k, 0 < n → Of ao k → k < w1.heap.size ∧ ¬ (k = O ∨ vl.ownBlock = some k ∨ vm.ownBlock = some k) := by
    intro k h0 hk
    obtain ⟨g, h1, h2⟩ := hOv h0
    have hgk : g = k := by unfold Of at hk; rw [h1] at hk; simpa using hk
    refine ⟨hgk ▸ h2.lt, fun h => hdis k (hpos.1 h0) hk ?_⟩
    rcases h with h | h | h
    · exact Or.inl h
    · exact Or.inr (Or.inl h)
    · exact Or.inr (Or.inr (Or.inl h))
  have hnew : ∀ k, w1.heap.size ≤ k → ¬ (k = O ∨ vl.ownBlock = some k ∨ vm.ownBlock = some k) := by
    intro k hk h
    have : Foot O vl vm G k := by
      rcases h with h | h | h
      · exact Or.inl h
      · exact Or.inr (Or.inl h)
      · exact Or.inr (Or.inr (Or.inl h))
    have := hF1 k this
    omega
  refine ⟨.slice (some ⟨g5, 0, none⟩) (E.length + 4) cap5, .slice (some ⟨g6, 0, none⟩) (E.length + 4) cap6, fun k => G k ∨ (0 < n ∧ Of ao k) ∨ k = g2 ∨ k = g3 ∨ k = g4, E ++ [(.slice ao n n, m), (.slice (some ⟨g2, 0, none⟩) (n + 1) cap2, m), (.slice (some ⟨g3, 0, none⟩) (n + 2) cap3, m), (.slice (some ⟨g4, 0, none⟩) (n + 3) cap4, m)], ?_, by simp, ?_, ?_⟩
  · have hGk : ∀ k, (G k ∨ (0 < n ∧ Of ao k) ∨ k = g2 ∨ k = g3 ∨ k = g4) → k < w4.heap.size ∧ ¬ (k = O ∨ vl.ownBlock = some k ∨ vm.ownBlock = some k) := by
      intro k hk
      rcases hk with hk | ⟨h0, hk⟩ | rfl | rfl | rfl
      · obtain ⟨d1, d2, d3⟩ := hBk4.dG k hk
        exact ⟨hBk4.lt k hk, fun h => by rcases h with h | h | h; exact d1 h; exact d2 h; exact d3 h⟩
      · obtain ⟨d1, d2⟩ := hOfl k h0 hk
        exact ⟨by omega, d2⟩
      · exact ⟨by omega, hnew _ (by omega)⟩
      · exact ⟨by omega, hnew _ (by omega)⟩
      · exact ⟨by omega, hnew _ (by omega)⟩
    have hup : ∀ (G0 : Nat → Prop) (v : Value), (∀ k, G0 k → (G k ∨ (0 < n ∧ Of ao k) ∨ k = g2 ∨ k = g3 ∨ k = g4)) → Mk w4 G0 v m → Mk wf (fun k => G k ∨ (0 < n ∧ Of ao k) ∨ k = g2 ∨ k = g3 ∨ k = g4) v m :=
      fun G0 v hs h => h.of_blocks (fun k hk => hC4.block k (hGk k (hs k hk)).1 (hGk k (hs k hk)).2) hs
    refine ⟨PC1, ?_, ?_, ?_, ?_, ?_, ?_, ?_, ?_⟩
    · rw [List.map_append]; exact PC2
    · rw [List.map_append]; exact PC3
    · intro e he
      rcases List.mem_append.1 he with he | he
      · exact (hBk4.ents e he).of_blocks (fun k hk => hC4.block k (hGk k (Or.inl hk)).1 (hGk k (Or.inl hk)).2) (fun k hk => Or.inl hk)
      · simp only [List.mem_cons, List.not_mem_nil, or_false] at he
        rcases he with rfl | rfl | rfl | rfl
        · exact hup (fun k => 0 < n ∧ Of ao k) _ (fun k hk => Or.inr (Or.inl hk)) (mk_first (lst_below hOv hb14) (by omega) (fun k h0 hk => ⟨h0, hk⟩))
        · exact hup (fun k => k = g2) _ (fun k hk => Or.inr (Or.inr (Or.inl hk))) (mk_new ((hR2.below' hb23).below' hb34) (by omega) rfl)
        · exact hup (fun k => k = g3) _ (fun k hk => Or.inr (Or.inr (Or.inr (Or.inl hk)))) (mk_new (hR3.below' hb34) (by omega) rfl)
        · exact hup (fun k => k = g4) _ (fun k hk => Or.inr (Or.inr (Or.inr (Or.inr hk)))) (mk_new hR4 (by omega) rfl)
    · simpa [Value.ownBlock] using PB5
    · simpa [Value.ownBlock] using PC5
    · intro k e
      simp [Value.ownBlock] at e PC6 ⊢
      omega
    · intro k hk
      obtain ⟨h1, h2⟩ := hGk k hk
      obtain ⟨e1, e2, e3⟩ := hkey k h1 h2
      exact ⟨e1, by simp [Value.ownBlock]; omega, by simp [Value.ownBlock]; omega⟩
    · intro k hk
      have := (hGk k hk).1
      have := hC4.size
      omega
  · intro k hk
    rcases hk with hk | hk | hk | hk | ⟨h0, hk⟩ | hk
    · exact Or.inl (Or.inl hk)
    · simp [Value.ownBlock] at hk
      rcases hat5 with h | h
      · exact Or.inl (Or.inr (Or.inl (by rw [h, hk])))
      · right; right; omega
    · simp [Value.ownBlock] at hk
      rcases hat6 with h | h
      · exact Or.inl (Or.inr (Or.inr (Or.inl (by rw [h, hk]))))
      · right; right; omega
    · exact Or.inl (Or.inr (Or.inr (Or.inr hk)))
    · exact Or.inr (Or.inl ⟨hpos.1 h0, hk⟩)
    · right; right
      rcases hk with rfl | rfl | rfl <;> omega
  · refine (hC0.trans (Chg.of_below hb14)).trans (hC4.mono fun k _ h => ?_)
    rcases h with h | h | h
    · exact Or.inl (Or.inl h)
    · exact Or.inl (Or.inr (Or.inl h))
    · exact Or.inl (Or.inr (Or.inr (Or.inl h)))

end Go.Proofs.Ytlodenfdcckemaa
