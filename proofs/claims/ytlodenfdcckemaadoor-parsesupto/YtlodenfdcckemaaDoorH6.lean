/-
  The books' take.
-/
import Derived.Test.YtlodenfdcckemaaDoorH5
namespace Go.Proofs.YtlodenfdcckemaaDoor
open Go.RowKit

/-- Behind the append to the list of lists, and its store. -/
theorem bkL {w4 w5 : World} {O : Nat} {vl vm vo : Value} {E : List (Value × Int)} {D L : List Value} {o : Obj} {g5 c5 l5 : Nat} (hBk : Bk w4 O vl vm vo E D) (hO5 : Own w5 0 24 (.slice (some ⟨g5, 0, none⟩) l5 c5) (E.map (·.1) ++ L))
    (hgr : (w4.alloc o).grownBy w5 vl.ownBlock) (hat : vl.ownBlock = some g5 ∨ g5 = (w4.alloc o).heap.size) :
    Blk w5 O 27 [vl, vm, vo] ∧ Chg (fun k => k = O ∨ vl.ownBlock = some k) w4 (w5.setCell ⟨O, 0, none⟩ (.slice (some ⟨g5, 0, none⟩) l5 c5)) ∧ Blk (w5.setCell ⟨O, 0, none⟩ (.slice (some ⟨g5, 0, none⟩) l5 c5)) O 27 [.slice (some ⟨g5, 0, none⟩) l5 c5, vm, vo] ∧
      Own (w5.setCell ⟨O, 0, none⟩ (.slice (some ⟨g5, 0, none⟩) l5 c5)) 0 24 (.slice (some ⟨g5, 0, none⟩) l5 c5) (E.map (·.1) ++ L) ∧ Own (w5.setCell ⟨O, 0, none⟩ (.slice (some ⟨g5, 0, none⟩) l5 c5)) 0 3 vm (E.map fun e => .int .i64 e.2) ∧ (∀ d ∈ D, d.ownBlock ≠ some g5) := by
  have hC4 : Chg (fun k => k = O ∨ vl.ownBlock = some k) w4 w5 := (Chg.of_below (alloc_below w4 o)).trans (Chg.of_grown hgr (fun k e => Or.inr e) (fun k e o' ho => (hBk.ol.alloc o).cells e o' ho))
  have hB5 : Blk w5 O 27 [vl, vm, vo] := (hBk.head.alloc o).grown hgr (own_blk hBk.ol hBk.head (by decide))
  have hgO : g5 ≠ O := fun e => own_blk hO5 hB5 (by decide) (by rw [← e]; rfl)
  have hset : Chg (fun k => k = O) w5 (w5.setCell ⟨O, 0, none⟩ (.slice (some ⟨g5, 0, none⟩) l5 c5)) := (Chg.refl (fun k => k = O) w5).setB O 0 rfl _
  have hC5 : Chg (fun k => k = O ∨ vl.ownBlock = some k) w4 (w5.setCell ⟨O, 0, none⟩ (.slice (some ⟨g5, 0, none⟩) l5 c5)) := hC4.trans (hset.mono fun k _ h => Or.inl h)
  refine ⟨hB5, hC5, hB5.set 0 _, hO5.chg hset (fun k e h => hgO (by simp [Value.ownBlock] at e; rw [e, h])), hBk.om.chg hC5 ?_, ?_⟩
  · rintro k e (h | h)
    · exact own_blk hBk.om hBk.head (by decide) (by rw [e, h])
    · exact own_ne hBk.om hBk.ol (by decide) e h
  · intro d hd e
    rcases hat with h | h
    · exact hBk.dl d hd _ h e
    · obtain ⟨n, _, hn⟩ := hBk.outs d hd
      have := (hn.lt e).2
      rw [alloc_size] at h
      omega

theorem takeEnd {w4 w5 w6 : World} {O : Nat} {vl vm vo : Value} {E : List (Value × Int)} {D L : List Value} {m : Int} {o o' : Obj} {g5 c5 l5 g6 c6 l6 : Nat} (hBk : Bk w4 O vl vm vo E D) (hL : ∀ q ∈ L, (∃ n, n ≤ 1000 ∧ Own w4 0 3 q (rep n (mk m))) ∧ ∀ k, vm.ownBlock = some k → q.ownBlock ≠ some k)
    (hO5 : Own w5 0 24 (.slice (some ⟨g5, 0, none⟩) l5 c5) (E.map (·.1) ++ L)) (hgr : (w4.alloc o).grownBy w5 vl.ownBlock) (hat : vl.ownBlock = some g5 ∨ g5 = (w4.alloc o).heap.size)
    (hO6 : Own w6 0 3 (.slice (some ⟨g6, 0, none⟩) l6 c6) ((E.map fun e => .int .i64 e.2) ++ rep L.length (mk m))) (hgr6 : ((w5.setCell ⟨O, 0, none⟩ (.slice (some ⟨g5, 0, none⟩) l5 c5)).alloc o').grownBy w6 vm.ownBlock) (hat6 : vm.ownBlock = some g6 ∨ g6 = ((w5.setCell ⟨O, 0, none⟩ (.slice (some ⟨g5, 0, none⟩) l5 c5)).alloc o').heap.size) :
    Bk (w6.setCell ⟨O, 1, none⟩ (.slice (some ⟨g6, 0, none⟩) l6 c6)) O (.slice (some ⟨g5, 0, none⟩) l5 c5) (.slice (some ⟨g6, 0, none⟩) l6 c6) vo (E ++ L.map fun q => (q, m)) D ∧ Chg (fun k => k = O ∨ vl.ownBlock = some k ∨ vm.ownBlock = some k) w4 (w6.setCell ⟨O, 1, none⟩ (.slice (some ⟨g6, 0, none⟩) l6 c6)) ∧
      (vl.ownBlock = some g5 ∨ w4.heap.size ≤ g5) ∧ (vm.ownBlock = some g6 ∨ w4.heap.size ≤ g6) := by
  obtain ⟨-, C5, B5, L5, M5, D5⟩ := bkL hBk hO5 hgr hat
  generalize w5.setCell ⟨O, 0, none⟩ (.slice (some ⟨g5, 0, none⟩) l5 c5) = W5 at *
  have s5 := C5.size
  have C6 : Chg (fun k => k = O ∨ vm.ownBlock = some k) W5 w6 := (Chg.of_below (alloc_below W5 o')).trans (Chg.of_grown hgr6 (fun k e => Or.inr e) (fun k e o ho => (M5.alloc o').cells e o ho))
  have B6 : Blk w6 O 27 [.slice (some ⟨g5, 0, none⟩) l5 c5, vm, vo] := (B5.alloc o').grown hgr6 (own_blk M5 B5 (by decide))
  have hgO : g6 ≠ O := fun e => own_blk hO6 B6 (by decide) (by rw [← e]; rfl)
  have hset : Chg (fun k => k = O) w6 (w6.setCell ⟨O, 1, none⟩ (.slice (some ⟨g6, 0, none⟩) l6 c6)) := (Chg.refl (fun k => k = O) w6).setB O 1 rfl _
  have C7 : Chg (fun k => k = O ∨ vm.ownBlock = some k) W5 (w6.setCell ⟨O, 1, none⟩ (.slice (some ⟨g6, 0, none⟩) l6 c6)) := C6.trans (hset.mono fun k _ h => Or.inl h)
  have CC : Chg (fun k => k = O ∨ vl.ownBlock = some k ∨ vm.ownBlock = some k) w4 (w6.setCell ⟨O, 1, none⟩ (.slice (some ⟨g6, 0, none⟩) l6 c6)) :=
    (C5.mono fun k _ h => h.elim Or.inl (fun h => Or.inr (Or.inl h))).trans (C7.mono fun k _ h => h.elim Or.inl (fun h => Or.inr (Or.inr h)))
  have hgr6l : vm.ownBlock = some g6 ∨ w4.heap.size ≤ g6 := hat6.imp (fun h => h) (fun h => by rw [alloc_size] at h; omega)
  have O7 : Own (w6.setCell ⟨O, 1, none⟩ (.slice (some ⟨g6, 0, none⟩) l6 c6)) 0 3 (.slice (some ⟨g6, 0, none⟩) l6 c6) ((E.map fun e => .int .i64 e.2) ++ rep L.length (mk m)) := hO6.chg hset (fun k e h => hgO (by simp [Value.ownBlock] at e; rw [e, h]))
  have ent : ∀ (q : Value) (n : Nat) (i : Int), Own w4 0 3 q (rep n (mk i)) → (∀ k, vm.ownBlock = some k → q.ownBlock ≠ some k) → Own (w6.setCell ⟨O, 1, none⟩ (.slice (some ⟨g6, 0, none⟩) l6 c6)) 0 3 q (rep n (mk i)) := by
    intro q n i hq hd
    refine hq.chg CC ?_
    rintro k e (h | h | h)
    · exact own_blk hq hBk.head (by decide) (by rw [e, h])
    · exact own_ne hq hBk.ol (by decide) e h
    · exact hd k h e
  refine ⟨⟨B6.set 1 _, ?_, ?_, ?_, ?_, ?_, ?_, ?_⟩, CC, hat.imp (fun h => h) (fun h => by rw [alloc_size] at h; omega), hgr6l⟩
  · have : (E ++ L.map fun q => (q, m)).map (·.1) = E.map (·.1) ++ L := by simp [Function.comp_def]
    rw [this]
    refine L5.chg C7 ?_
    rintro k e (h | h)
    · exact own_blk L5 B5 (by decide) (by rw [e, h])
    · exact own_ne L5 M5 (by decide) e h
  · have : ((E ++ L.map fun q => (q, m)).map fun e => Value.int .i64 e.2) = (E.map fun e => Value.int .i64 e.2) ++ rep L.length (mk m) := by
      rw [List.map_append, List.map_map]
      congr 1
      show List.map (fun _ => mk m) L = _
      exact List.map_const' ..
    rw [this]
    exact O7
  · refine hBk.oo.chg CC ?_
    rintro k e (h | h | h)
    · exact own_blk hBk.oo hBk.head (by decide) (by rw [e, h])
    · exact own_ne hBk.oo hBk.ol (by decide) e h
    · exact own_ne hBk.oo hBk.om (by decide) e h
  · intro e he
    rcases List.mem_append.1 he with he | he
    · obtain ⟨n, hn, h⟩ := hBk.ents e he
      exact ⟨n, hn, ent _ _ _ h (hBk.dm e he)⟩
    · obtain ⟨q, hq, rfl⟩ := List.mem_map.1 he
      obtain ⟨⟨n, hn, h⟩, hd⟩ := hL q hq
      exact ⟨n, hn, ent _ _ _ h hd⟩
  · intro d hd
    obtain ⟨n, hn, h⟩ := hBk.outs d hd
    refine ⟨n, hn, h.chg CC ?_⟩
    rintro k e (h' | h' | h')
    · exact own_blk h hBk.head (by decide) (by rw [e, h'])
    · exact hBk.dl d hd k h' e
    · exact own_ne h hBk.om (by decide) e h'
  · intro d hd k e
    simp [Value.ownBlock] at e
    rw [← e]
    exact D5 d hd
  · intro e he k hk
    simp [Value.ownBlock] at hk
    subst hk
    rcases List.mem_append.1 he with he | he
    · rcases hgr6l with h | h
      · exact hBk.dm e he _ h
      · obtain ⟨n, _, h'⟩ := hBk.ents e he
        intro q
        have := (h'.lt q).2
        omega
    · obtain ⟨q, hq, rfl⟩ := List.mem_map.1 he
      obtain ⟨⟨n, hn, h'⟩, hd⟩ := hL q hq
      rcases hgr6l with h | h
      · exact hd _ h
      · intro q
        have := (h'.lt q).2
        omega
theorem blk_new_set (w : World) (O : Nat) (v : Value) (L : List Value) : Blk ((w.setCell ⟨O, 0, none⟩ v).alloc (.cells L.toArray 3)) w.heap.size 3 L := by
  have := blk_new (w.setCell ⟨O, 0, none⟩ v) L 3
  rwa [show (w.setCell ⟨O, 0, none⟩ v).heap.size = w.heap.size by simp [World.setCell]] at this

set_option maxRecDepth 100000 in
set_option maxHeartbeats 2000000 in
theorem take_any (O : Nat) (vl vm vo v : Value) (E : List (Value × Int)) (D : List Value) (zs : List Int) (w : World) (hBk : Bk w O vl vm vo E D) (hE : E.length ≤ 100000000000) (hV : Own w 0 3 v (ints zs)) (hz : zs.length ≤ 900) (hdis : ∀ k, v.ownBlock = some k → ¬ Foot O vl vm vo E D k) :
    Calls Tryd.prog 17 #[.pointer (some ⟨O, 0, none⟩), v] w fun e w' => e = .returned (.tuple #[]) ∧ ∃ vl' vm' E', Bk w' O vl' vm' vo E' D ∧ E'.length = E.length + 4 ∧
      (∀ k, Foot O vl' vm' vo E' D k → Foot O vl vm vo E D k ∨ v.ownBlock = some k ∨ w.heap.size ≤ k) ∧ Chg (fun k => Foot O vl vm vo E D k ∨ v.ownBlock = some k) w w' := by
  obtain ⟨lo, lc, hvl⟩ := hBk.ol.shape
  obtain ⟨mo, mc, hvm⟩ := hBk.om.shape
  obtain ⟨ao, ac, hv⟩ := hV.shape
  rw [List.length_map] at hvl hvm hv
  subst hvl
  subst hvm
  subst hv
  have c1 : w.cell? ⟨O, 1, none⟩ = some (.slice mo E.length mc) := hBk.head.cell (i := 1) (by simp) undef
  have hOl := hBk.head.lt
  go_enter Tryd.func17, Tryd.ntmps17
  go_wp2
  generalize (-1000 : Int) - (E.length : Int) = m
  go_loopw [5] (fun i wr => ∃ (k : Nat), k ≤ zs.length ∧ i = .int .i64 k ∧ Own wr 0 3 (.slice ao zs.length ac) (over (ints zs) (mk m) k) ∧ Chg (fun k => (Value.slice ao zs.length ac).ownBlock = some k) w wr) (fun i _ => zs.length - (intOf i).toNat)
  case atStart =>
    exact ⟨0, by omega, rfl, by rw [over_zero]; exact hV, Chg.refl _ _⟩
  case round =>
    obtain ⟨k, hk, rfl, hOv, hC⟩ := hrel
    by_cases hlt : k < zs.length
    · have hlen : (over (ints zs) (mk m) k).length = zs.length := by rw [over_length _ _ _ (by simpa using hk)]; simp
      obtain ⟨g, cap, hg, hgl, hcells⟩ := hOv.at (by omega)
      have hcell := hcells k (by omega)
      simp only [Value.slice.injEq] at hg
      obtain ⟨rfl, -, rfl⟩ := hg
      have hset := hOv.put (i := k) (by omega) (mk m)
      rw [over_set _ _ _ (by simpa using hlt)] at hset
      have hfr : wr.frozen? ⟨g, k, none⟩ = false := by
        rcases hOv with ⟨h, _⟩ | ⟨g', cap', h, _, _, hr⟩
        · simp at h
        · simp only [Value.slice.injEq, Option.some.injEq, Addr.mk.injEq, and_true] at h
          obtain ⟨rfl, -, rfl⟩ := h
          exact hr.frozen k
      generalize (over (ints zs) (mk m) k).getD k undef = old at *
      clear hcells
      go_wp2
      go_roundw
      case rel => exact ⟨k + 1, by omega, by go_num, hset, hC.setB g k rfl _⟩
      case measure => simp [intOf]; omega
    · obtain rfl : k = zs.length := by omega
      have hOv1 : Own wr 0 3 (.slice ao zs.length ac) (rep zs.length (mk m)) := by
        have := over_end (ints zs) (mk m)
        rw [List.length_map] at this
        rw [this] at hOv
        exact hOv
      clear hOv
      have hBk1 := hBk.chg hC (fun k hk h => hdis k h hk)
      obtain ⟨n, hn⟩ : ∃ n, n = zs.length := ⟨_, rfl⟩
      rw [← hn] at hOv1 hz hC ⊢
      obtain ⟨w1, rfl⟩ : ∃ x, x = wr := ⟨wr, rfl⟩
      have hsz0 := hC.size
      have hdis1 : ∀ k, (Value.slice ao n ac).ownBlock = some k → ¬ Foot O (.slice lo E.length lc) (.slice mo E.length mc) vo E D k := by rw [hn]; exact hdis
      have hF1 : ∀ k, Foot O (.slice lo E.length lc) (.slice mo E.length mc) vo E D k → k < w.heap.size := fun k hk => hBk.foot_lt hk
      clear hBk hV c1 hOl hk hlt hdis
      have HN : Hid (n = zs.length) := hn
      clear hn
      have HC : Hid (Chg (fun k => (Value.slice ao n ac).ownBlock = some k) w w1) := hC
      clear hC
      have b1 := alloc_below w1 (.cells #[.int .i64 m] 3)
      have N1 : Blk (w1.alloc (.cells #[.int .i64 m] 3)) w1.heap.size 3 (rep 1 (mk m)) := blk_new w1 [.int .i64 m] 3
      have V1 := hOv1.alloc (.cells #[.int .i64 m] 3)
      have hOl := hBk1.head.lt
      go_wp2_with (first
        | (at_builtin; refine wpList_append_mk (.tmp 25) (.tmp 27) 24 3 (.int .i64 0) (mk m) 8 Tryd.underlying24 Tryd.info3 rfl (.slice ao n ac) n 1 w1.heap.size (by decide) (by rfl) (by rfl) V1 N1 rfl (by unfold maxLen; omega) (by omega) ?_; intro g2 cap2 w2 X2 C2 at2 keep2; have V2 := keep2 _ n (by omega) V1; have C12 : Chg (fun k => (Value.slice ao n ac).ownBlock = some k) w1 w2 := (Chg.of_below b1).trans C2; have V2a := V2.alloc (.cells #[.int .i64 m, .int .i64 m] 3); have X2a := X2.alloc (.cells #[.int .i64 m, .int .i64 m] 3); have b2 := alloc_below w2 (.cells #[.int .i64 m, .int .i64 m] 3); have N2 : Blk (w2.alloc (.cells #[.int .i64 m, .int .i64 m] 3)) w2.heap.size 3 (rep 2 (mk m)) := blk_new w2 [.int .i64 m, .int .i64 m] 3)
        | (at_builtin; refine wpList_append_mk (.tmp 29) (.tmp 32) 24 3 (.int .i64 0) (mk m) 8 Tryd.underlying24 Tryd.info3 rfl (.slice ao n ac) n 2 w2.heap.size (by decide) (by rfl) (by rfl) V2a N2 rfl (by unfold maxLen; omega) (by omega) ?_; intro g3 cap3 w3 Y3 C3 at3 keep3; have V3 := keep3 _ n (by omega) V2a; have X3 := keep3 _ (n + 1) (by omega) X2a; have C13 : Chg (fun k => (Value.slice ao n ac).ownBlock = some k) w1 w3 := C12.trans ((Chg.of_below b2).trans C3); have V3a := V3.alloc (.cells #[.int .i64 m, .int .i64 m, .int .i64 m] 3); have X3a := X3.alloc (.cells #[.int .i64 m, .int .i64 m, .int .i64 m] 3); have Y3a := Y3.alloc (.cells #[.int .i64 m, .int .i64 m, .int .i64 m] 3); have b3 := alloc_below w3 (.cells #[.int .i64 m, .int .i64 m, .int .i64 m] 3); have N3 : Blk (w3.alloc (.cells #[.int .i64 m, .int .i64 m, .int .i64 m] 3)) w3.heap.size 3 (rep 3 (mk m)) := blk_new w3 [.int .i64 m, .int .i64 m, .int .i64 m] 3)
        | (at_builtin; refine wpList_append_mk (.tmp 34) (.tmp 38) 24 3 (.int .i64 0) (mk m) 8 Tryd.underlying24 Tryd.info3 rfl (.slice ao n ac) n 3 w3.heap.size (by decide) (by rfl) (by rfl) V3a N3 rfl (by unfold maxLen; omega) (by omega) ?_; intro g4 cap4 w4 Z4 C4 at4 keep4; have V4 := keep4 _ n (by omega) V3a; have X4 := keep4 _ (n + 1) (by omega) X3a; have Y4 := keep4 _ (n + 2) (by omega) Y3a; have C14 : Chg (fun k => (Value.slice ao n ac).ownBlock = some k) w1 w4 := C13.trans ((Chg.of_below b3).trans C4); have hBk4 := hBk1.chg C14 (fun k hk h => hdis1 k h hk); have c0 : w4.cell? ⟨O, 0, none⟩ = some (.slice lo E.length lc) := hBk4.head.cell (i := 0) (by simp) undef; have N4 : Blk (w4.alloc (.cells #[.slice ao n ac, .slice (some ⟨g2, 0, none⟩) (n + 1) cap2, .slice (some ⟨g3, 0, none⟩) (n + 2) cap3, .slice (some ⟨g4, 0, none⟩) (n + 3) cap4] 24)) w4.heap.size 24 [.slice ao n ac, .slice (some ⟨g2, 0, none⟩) (n + 1) cap2, .slice (some ⟨g3, 0, none⟩) (n + 2) cap3, .slice (some ⟨g4, 0, none⟩) (n + 3) cap4] := blk_new w4 [.slice ao n ac, .slice (some ⟨g2, 0, none⟩) (n + 1) cap2, .slice (some ⟨g3, 0, none⟩) (n + 2) cap3, .slice (some ⟨g4, 0, none⟩) (n + 3) cap4] 24; have one4 := slices_one [.slice ao n ac, .slice (some ⟨g2, 0, none⟩) (n + 1) cap2, .slice (some ⟨g3, 0, none⟩) (n + 2) cap3, .slice (some ⟨g4, 0, none⟩) (n + 3) cap4] (by intro v hv; simp at hv; rcases hv with rfl | rfl | rfl | rfl <;> exact ⟨_, _, _, rfl⟩); have own4 := hBk4.ol.alloc (.cells #[.slice ao n ac, .slice (some ⟨g2, 0, none⟩) (n + 1) cap2, .slice (some ⟨g3, 0, none⟩) (n + 2) cap3, .slice (some ⟨g4, 0, none⟩) (n + 3) cap4] 24))
        | (at_builtin; refine wpList_append_new (.tmp 44) (.tmp 49) 23 24 (.slice none 0 0) 24 Tryd.underlying23 Tryd.info24 rfl 0 w4.heap.size _ _ [.slice ao n ac, .slice (some ⟨g2, 0, none⟩) (n + 1) cap2, .slice (some ⟨g3, 0, none⟩) (n + 2) cap3, .slice (some ⟨g4, 0, none⟩) (n + 3) cap4] 4 E.length (by simp) rfl (by decide) (by rfl) (by rfl) own4 N4 one4 (by unfold maxLen; omega) (by omega) (Nat.zero_le _) ?_; intro g5 cap5 w5 hO5 hgr5 hat5 hlt5; obtain ⟨B5, C5, PB1, PB2, PB3, PB6⟩ := bkL hBk4 hO5 hgr5 hat5; have d0 : w5.cell? ⟨O, 0, none⟩ = some (.slice lo E.length lc) := B5.cell (i := 0) (by simp) undef; have f0 := B5.frozen 0; have e1 : (w5.setCell ⟨O, 0, none⟩ (.slice (some ⟨g5, 0, none⟩) (E.length + 4) cap5)).cell? ⟨O, 1, none⟩ = some (.slice mo E.length mc) := PB1.cell (i := 1) (by simp) undef; have own5 := PB3.alloc (.cells #[.int .i64 m, .int .i64 m, .int .i64 m, .int .i64 m] 3); have N5 : Blk ((w5.setCell ⟨O, 0, none⟩ (.slice (some ⟨g5, 0, none⟩) (E.length + 4) cap5)).alloc (.cells #[.int .i64 m, .int .i64 m, .int .i64 m, .int .i64 m] 3)) w5.heap.size 3 (rep 4 (mk m)) := blk_new_set w5 O (.slice (some ⟨g5, 0, none⟩) (E.length + 4) cap5) [.int .i64 m, .int .i64 m, .int .i64 m, .int .i64 m])
        | (at_builtin; refine wpList_append_new (.tmp 57) (.tmp 62) 24 3 (.int .i64 0) 8 Tryd.underlying24 Tryd.info3 rfl 0 w5.heap.size _ _ (rep 4 (mk m)) 4 E.length (by simp) (by simp) (by decide) (by rfl) (by rfl) own5 N5 (rep_one _ _ rfl) (by unfold maxLen; omega) (by omega) (Nat.zero_le _) ?_; intro g6 cap6 w6 hO6 hgr6 hat6 hlt6; have B6 := (PB1.alloc (.cells #[.int .i64 m, .int .i64 m, .int .i64 m, .int .i64 m] 3)).grown hgr6 (own_blk PB3 PB1 (by decide)); have d1 : w6.cell? ⟨O, 1, none⟩ = some (.slice mo E.length mc) := B6.cell (i := 1) (by simp) undef; have f1 := B6.frozen 1))
      go_end0
      refine ⟨rfl, ?_⟩
      rw [← HN.out]
      have s2 := C12.size
      have s3 := C13.size
      have s4 := C14.size
      have at2' : (Value.slice ao n ac).ownBlock = some g2 ∨ w1.heap.size ≤ g2 := at2.imp (fun h => h) (fun h => by rw [alloc_size] at h; omega)
      have at3' : (Value.slice ao n ac).ownBlock = some g3 ∨ w1.heap.size ≤ g3 := at3.imp (fun h => h) (fun h => by rw [alloc_size] at h; omega)
      have at4' : (Value.slice ao n ac).ownBlock = some g4 ∨ w1.heap.size ≤ g4 := at4.imp (fun h => h) (fun h => by rw [alloc_size] at h; omega)
      have qd : ∀ q ∈ ([.slice ao n ac, .slice (some ⟨g2, 0, none⟩) (n + 1) cap2, .slice (some ⟨g3, 0, none⟩) (n + 2) cap3, .slice (some ⟨g4, 0, none⟩) (n + 3) cap4] : List Value), ∀ k, q.ownBlock = some k → (Value.slice ao n ac).ownBlock = some k ∨ w1.heap.size ≤ k := by
        intro q hq k e
        simp only [List.mem_cons, List.not_mem_nil, or_false] at hq
        rcases hq with rfl | rfl | rfl | rfl
        · exact Or.inl e
        · simp [Value.ownBlock] at e; rw [← e]; exact at2'
        · simp [Value.ownBlock] at e; rw [← e]; exact at3'
        · simp [Value.ownBlock] at e; rw [← e]; exact at4'
      have qo : ∀ q ∈ ([.slice ao n ac, .slice (some ⟨g2, 0, none⟩) (n + 1) cap2, .slice (some ⟨g3, 0, none⟩) (n + 2) cap3, .slice (some ⟨g4, 0, none⟩) (n + 3) cap4] : List Value), ∃ n, n ≤ 1000 ∧ Own w4 0 3 q (rep n (mk m)) := by
        intro q hq
        simp only [List.mem_cons, List.not_mem_nil, or_false] at hq
        rcases hq with rfl | rfl | rfl | rfl
        · exact ⟨n, by omega, V4⟩
        · exact ⟨n + 1, by omega, X4⟩
        · exact ⟨n + 2, by omega, Y4⟩
        · exact ⟨n + 3, by omega, Z4⟩
      obtain ⟨R1, R2, R3, R4⟩ := takeEnd hBk4 (m := m) (L := [.slice ao n ac, .slice (some ⟨g2, 0, none⟩) (n + 1) cap2, .slice (some ⟨g3, 0, none⟩) (n + 2) cap3, .slice (some ⟨g4, 0, none⟩) (n + 3) cap4]) (fun q hq => ⟨qo q hq, fun k hk e => by
        rcases qd q hq k e with h | h
        · exact hdis1 k h (Or.inr (Or.inr (Or.inl hk)))
        · have := hF1 k (Or.inr (Or.inr (Or.inl hk))); omega⟩) hO5 hgr5 hat5 hO6 hgr6 hat6
      refine ⟨_, _, _, R1, by simp, ?_, ?_⟩
      · rintro k (h | h | h | h | ⟨e, he, h⟩ | h)
        · exact Or.inl (Or.inl h)
        · simp [Value.ownBlock] at h
          subst h
          rcases R3 with h | h
          · exact Or.inl (Or.inr (Or.inl h))
          · exact Or.inr (Or.inr (by omega))
        · simp [Value.ownBlock] at h
          subst h
          rcases R4 with h | h
          · exact Or.inl (Or.inr (Or.inr (Or.inl h)))
          · exact Or.inr (Or.inr (by omega))
        · exact Or.inl (Or.inr (Or.inr (Or.inr (Or.inl h))))
        · rcases List.mem_append.1 he with he | he
          · exact Or.inl (Or.inr (Or.inr (Or.inr (Or.inr (Or.inl ⟨e, he, h⟩)))))
          · obtain ⟨q, hq, rfl⟩ := List.mem_map.1 he
            rcases qd q hq k h with h | h
            · exact Or.inr (Or.inl h)
            · exact Or.inr (Or.inr (by omega))
        · exact Or.inl (Or.inr (Or.inr (Or.inr (Or.inr (Or.inr h)))))
      · refine ((HC.out.trans C14).mono fun k _ h => Or.inr h).trans (R2.mono fun k _ h => ?_)
        rcases h with h | h | h
        · exact Or.inl (Or.inl h)
        · exact Or.inl (Or.inr (Or.inl h))
        · exact Or.inl (Or.inr (Or.inr (Or.inl h)))
end Go.Proofs.YtlodenfdcckemaaDoor
