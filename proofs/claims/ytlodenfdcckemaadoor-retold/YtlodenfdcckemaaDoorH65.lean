/-
  The program takes all words.
-/
import Derived.Test.YtlodenfdcckemaaDoorH64
namespace Go.Proofs.YtlodenfdcckemaaDoor
open Go.RowKit Go.Shelf

attribute [local go_sem] Oper.semAt_some

set_option maxHeartbeats 400000 in
theorem seq_any (s : ByteArray) (w : World) : Calls Tryd.prog 106 #[.string s, .func (.func 107) #[] #[]] w fun e w' => ∃ Bs Bf, e = .returned (.func (.func 121) #[] #[.pointer (some ⟨Bs, 0, none⟩), .pointer (some ⟨Bf, 0, none⟩)]) ∧
    w.heap.size ≤ Bs ∧ w.heap.size ≤ Bf ∧ Blk w' Bs 9 [.string s] ∧ Blk w' Bf 152 [.func (.func 107) #[] #[]] ∧ Below w.heap.size w w' := by
  have h1 := blk_new w [.string s] 9
  have h2 := blk_new (w.alloc (.cells #[.string s] 9)) [.func (.func 107) #[] #[]] 152
  have h3 := h1.alloc (.cells #[.func (.func 107) #[] #[]] 152)
  have hb := ((Below.refl w.heap.size w).alloc (Nat.le_refl _) (.cells #[.string s] 9)).alloc (by simp) (.cells #[.func (.func 107) #[] #[]] 152)
  rw [World.size_alloc] at h2
  go_enter Tryd.func106, Tryd.ntmps106
  go_wp2
  go_ret
  exact ⟨w.heap.size, w.heap.size + 1, rfl, Nat.le_refl _, by omega, h3, h2, hb⟩

/-- What taking all words answers. -/
def TookAll (f : Fx) (ws : List Bytes) (e : Ending) (w' : World) : Prop :=
  e = .returned (.tuple #[.int .i64 (takeAllW f.v f.c ws).1, .int .i64 (takeAllW f.v f.c ws).2.1]) ∧
  ((takeAllW f.v f.c ws).1 = 0 → ∃ vE vO vs, Blk w' f.B 123 [.int .i64 f.v, .int .i64 f.c, vE, vO] ∧ Made w' f.base vE vO vs (takeAllW f.v f.c ws).2.2) ∧ Chg f.S f.w0 w'

theorem fr_start (B L base v c : Nat) (s : ByteArray) (k m : Int) (w : World) (hB : Blk w B 123 [.int .i64 v, .int .i64 c, .slice none 0 0, .slice none 0 0]) (hL : Blk w L 117 [.string s, .int .i64 k]) (hT : Lib.Utf8Tabs 2 3 w) (hm : w.cell? ⟨1, 0, none⟩ = some (.int .i64 m)) :
    Fr ⟨w, B, L, base, w.heap.size, w.heap.size + 1, w.heap.size + 1 + 1, w.heap.size + 1 + 1 + 1, v, c, m⟩ ((((w.alloc (.cells #[.pointer (some ⟨B, 0, none⟩)] 148)).alloc (.cells #[.int .i64 0] 34)).alloc (.cells #[.int .i64 0] 3)).alloc (.cells #[.int .i64 0] 3)) s k 0 ⟨[], []⟩ (.slice none 0 0) (.slice none 0 0) [] := by
  have hb1 := alloc_below' w (.cells #[.pointer (some ⟨B, 0, none⟩)] 148)
  have n1 := blk_new w [.pointer (some ⟨B, 0, none⟩)] 148
  have z1 : (w.alloc (.cells #[.pointer (some ⟨B, 0, none⟩)] 148)).heap.size = w.heap.size + 1 := by simp
  generalize w.alloc (.cells #[.pointer (some ⟨B, 0, none⟩)] 148) = w1 at *
  have hb2 := alloc_below' w1 (.cells #[.int .i64 0] 34)
  have n2 := blk_new w1 [.int .i64 0] 34
  have z2 : (w1.alloc (.cells #[.int .i64 0] 34)).heap.size = w1.heap.size + 1 := by simp
  generalize w1.alloc (.cells #[.int .i64 0] 34) = w2 at *
  have hb3 := alloc_below' w2 (.cells #[.int .i64 0] 3)
  have n3 := blk_new w2 [.int .i64 0] 3
  have z3 : (w2.alloc (.cells #[.int .i64 0] 3)).heap.size = w2.heap.size + 1 := by simp
  generalize w2.alloc (.cells #[.int .i64 0] 3) = w3 at *
  have hb4 := alloc_below' w3 (.cells #[.int .i64 0] 3)
  have n4 := blk_new w3 [.int .i64 0] 3
  generalize w3.alloc (.cells #[.int .i64 0] 3) = w4 at *
  rw [z3, z2, z1] at n4
  rw [z2, z1] at n3
  rw [z1] at n2
  have hb : Below w.heap.size w w4 := hb1.trans ((hb2.trans ((hb3.trans (hb4.mono (by omega))).mono (by omega))).mono (by omega))
  have hs2 := size2 hT
  exact ⟨((n1.below' hb2).below' hb3).below' hb4, (n2.below' hb3).below' hb4, n3.below' hb4, n4, hB.below' hb, hL.below' hb, Made.start _ _, fun k e => by (obtain ⟨y, hy, e⟩ := e; simp at hy; rw [hy] at e; simp [Value.ownBlock] at e), tabs_of hT (hb.block 2 (by omega)) (hb.block 3 (by omega)), (hb.cell (p := ⟨1, 0, none⟩) (show 1 < w.heap.size by omega)).trans hm, Chg.of_below hb⟩

theorem fin19 {n : Nat} {tmps : Array Value} {W : World} {Be Ba : Nat} {e a : Int} {R : Ending → World → Prop} (hbe : Blk W Be 34 [.int .i64 e]) (hba : Blk W Ba 3 [.int .i64 a]) (h4 : tmps[4]? = some (.pointer (some ⟨Be, 0, none⟩))) (h5 : tmps[5]? = some (.pointer (some ⟨Ba, 0, none⟩)))
    (h : R (.returned (.tuple #[.int .i64 e, .int .i64 a])) W) : LeavesInM Fence.wide n Tryd.prog Tryd.f88 tmps R [] .returning W := by
  have c0 : W.cell? ⟨Be, 0, none⟩ = some (.int .i64 e) := hbe.cell (i := 0) (by simp) undef
  have c1 : W.cell? ⟨Ba, 0, none⟩ = some (.int .i64 a) := hba.cell (i := 0) (by simp) undef
  refine ⟨_, ?_, h⟩
  simp [results, Tryd.results88, go_sem, h4, h5, c0, c1]

/-- It leaves, its results told. -/
theorem leave19 {f : Fx} {n n1 : Nat} {W : World} {Ds : List Nat} {e a : Int} {ws : List Bytes} {tmps : Array Value} (hbe : Blk W f.Be 34 [.int .i64 e]) (hba : Blk W f.Ba 3 [.int .i64 a]) (hC : Chg f.S f.w0 W) (hM : Mks f.w0.heap.size n1 Ds W)
    (h1 : (takeAllW f.v f.c ws).1 = e) (h2 : (takeAllW f.v f.c ws).2.1 = a) (h3 : e = 0 → ∃ vE vO vs, Blk W f.B 123 [.int .i64 f.v, .int .i64 f.c, vE, vO] ∧ Made W f.base vE vO vs (takeAllW f.v f.c ws).2.2)
    (h4 : tmps[4]? = some (.pointer (some ⟨f.Be, 0, none⟩))) (h5 : tmps[5]? = some (.pointer (some ⟨f.Ba, 0, none⟩))) :
    LeavesInM Fence.wide n Tryd.prog Tryd.f88 tmps (fun e w' => ∃ f' : Fx, f'.w0 = f.w0 ∧ f'.B = f.B ∧ f'.L = f.L ∧ f'.base = f.base ∧ f'.v = f.v ∧ f'.c = f.c ∧ TookAll f' ws e w') (Ds.map dmark) .returning W := by
  refine leave_marks Ds W hM fun W' hs => fin19 (hbe.same hs) (hba.same hs) h4 h5 ⟨f, rfl, rfl, rfl, rfl, rfl, rfl, ?_, ?_, hC.same hs⟩
  · rw [h1, h2]
  · intro h0
    obtain ⟨vE, vO, vs, hB, hMd⟩ := h3 (h1 ▸ h0)
    exact ⟨vE, vO, vs, hB.same hs, hMd.same hs⟩

/-- The results are laid. -/
theorem Fr.put {f : Fx} {W : World} {s' : ByteArray} {k cnt : Int} {st : St} {vE vO : Value} {vs : List Value} (h : Fr f W s' k cnt st vE vO vs) (ok : f.Ok) (e a : Int) :
    Blk ((W.setCell ⟨f.Be, 0, none⟩ (.int .i64 e)).setCell ⟨f.Ba, 0, none⟩ (.int .i64 a)) f.Be 34 [.int .i64 e] ∧ Blk ((W.setCell ⟨f.Be, 0, none⟩ (.int .i64 e)).setCell ⟨f.Ba, 0, none⟩ (.int .i64 a)) f.Ba 3 [.int .i64 a] ∧
    Chg (fun k => k = f.Be ∨ k = f.Ba) W ((W.setCell ⟨f.Be, 0, none⟩ (.int .i64 e)).setCell ⟨f.Ba, 0, none⟩ (.int .i64 a)) ∧ Chg f.S f.w0 ((W.setCell ⟨f.Be, 0, none⟩ (.int .i64 e)).setCell ⟨f.Ba, 0, none⟩ (.int .i64 a)) ∧
    Blk ((W.setCell ⟨f.Be, 0, none⟩ (.int .i64 e)).setCell ⟨f.Ba, 0, none⟩ (.int .i64 a)) f.B 123 [.int .i64 f.v, .int .i64 f.c, vE, vO] ∧ Made ((W.setCell ⟨f.Be, 0, none⟩ (.int .i64 e)).setCell ⟨f.Ba, 0, none⟩ (.int .i64 a)) f.base vE vO vs st := by
  have hc : Chg (fun k => k = f.Be ∨ k = f.Ba) W ((W.setCell ⟨f.Be, 0, none⟩ (.int .i64 e)).setCell ⟨f.Ba, 0, none⟩ (.int .i64 a)) := ((Chg.refl (fun k => k = f.Be ∨ k = f.Ba) W).setB f.Be 0 (Or.inl rfl) _).setB f.Ba 0 (Or.inr rfl) _
  have hne : f.Be ≠ f.Ba := blk_ne h.be h.ba (by decide)
  have nw := ok.new
  have bs' := ok.base
  refine ⟨(h.be.set 0 _).setOther hne _, (h.ba.setOther (fun e => hne e.symm) _).set 0 _, hc, h.chg.trans (hc.mono fun k _ e => Or.inr (Or.inr (by rcases e with e | e <;> omega))), ?_, ?_⟩
  · exact h.hB.chg hc (fun e => e.elim (blk_ne h.hB h.be (by decide)) (blk_ne h.hB h.ba (by decide)))
  · refine h.made.chg' hc (fun k e e' => ?_) (fun k e e' => ?_)
    · rcases e' with e' | e'
      · exact own_blk h.made.oe h.be (by decide) (by rw [e, e'])
      · exact own_blk h.made.oe h.ba (by decide) (by rw [e, e'])
    · rcases e' with e' | e'
      · exact h.made.ob_ne h.be (by decide) (by rw [← e']; exact e)
      · exact (h.nob k e).2 e'

def okOf (v : Value) : Bool := match v with | .bool b => b | _ => false

/-- Between two lines. -/
def Between (f : Fx) (all : List Bytes) (lv : ByteArray) (ok : Bool) (W : World) (Ds : List Nat) : Prop := ∃ (s' : ByteArray) (k : Int) (done : List Bytes) (st : St) (vE vO : Value) (vs : List Value),
  Fr f W s' k done.length st vE vO vs ∧ Mks f.w0.heap.size W.heap.size Ds W ∧ takeW f.v f.c 0 ⟨[], []⟩ done = (0, 0, st) ∧ all = done ++ (if ok then fields [] (bs lv) ++ wordsOf (rows (bs s')) else []) ∧ (ok = true → lv.size ≤ 1100000 ∧ s'.size ≤ 1100000 ∧ 0 ≤ k ∧ k + s'.size ≤ 2200000)

def LoopInv (f : Fx) (all : List Bytes) (a : Act) (W : World) : Prop := ∃ (lv : ByteArray) (ok : Bool) (Ds : List Nat) (u9 u10 u11 u12 u13 u14 u15 u16 u17 u18 u19 u20 u21 u22 u23 u24 u25 u26 u27 u28 u29 u30 u31 u32 u33 u34 u35 u36 u37 u38 u39 u40 u41 : Value),
  Between f all lv ok W Ds ∧ a = { tmps := #[.pointer (some ⟨f.B, 0, none⟩), .pointer (some ⟨f.L, 0, none⟩), .pointer (some ⟨f.Bb, 0, none⟩), undef, .pointer (some ⟨f.Be, 0, none⟩), .pointer (some ⟨f.Ba, 0, none⟩), .pointer (some ⟨f.Bc, 0, none⟩), .string lv, .bool ok, u9, u10, u11, u12, u13, u14, u15, u16, u17, u18, u19, u20, u21, u22, u23, u24, u25, u26, u27, u28, u29, u30, u31, u32, u33, u34, u35, u36, u37, u38, u39, u40, u41], defers := Ds.map dmark }

def meas (f : Fx) (a : Act) (W : World) : Nat := if okOf (a.tmps.getD 8 undef) then leftOf W f.L + 1 else 0

/-- The next line has been asked for: between two lines. -/
theorem between_next {f : Fx} (ok : f.Ok) {all done : List Bytes} {s' : ByteArray} {k : Int} {st : St} {vE vO : Value} {vs : List Value} {Ds : List Nat} {W W' : World} {e : Ending} (hF : Fr f W s' k done.length st vE vO vs) (hM : Mks f.w0.heap.size W.heap.size Ds W) (hd : takeW f.v f.c 0 ⟨[], []⟩ done = (0, 0, st)) (hall : all = done ++ wordsOf (rows (bs s'))) (hs : s'.size ≤ 1100000) (hk : 0 ≤ k ∧ k + s'.size ≤ 2200000)
    (hn : Next f.L k s' e W') (hc : Chg (· = f.L) W W') : ∃ lv b, e = .returned (.tuple #[.string lv, .bool b]) ∧ Between f all lv b W' Ds ∧ (if b then leftOf W' f.L + 1 else 0) < leftOf W f.L + 1 := by
  obtain ⟨s'', hle, h | ⟨a, h1, h2, h3, h4, h5⟩⟩ := hn
  · obtain ⟨h1, h2, h3⟩ := h
    refine ⟨_, _, h2, ⟨s'', _, done, st, vE, vO, vs, hF.nexts ok hc h3, (hM.keeps hc.keeps).mono hc.size, hd, ?_, fun h => by cases h⟩, by simp⟩
    rw [hall, wordsOf_drop, h1]
    rfl
  · have hF' := hF.nexts ok hc h5
    refine ⟨a, true, h4, ⟨s'', _, done, st, vE, vO, vs, hF', (hM.keeps hc.keeps).mono hc.size, hd, ?_, fun _ => ⟨by omega, by omega, by omega, by omega⟩⟩, ?_⟩
    · rw [hall, wordsOf_drop, h1, wordsOf_cons]
      have hr : remark (bs a) = false := by
        have := List.head?_dropWhile_not remark (rows (bs s'))
        rw [h1] at this
        simpa using this
      rw [hr]
      rfl
    · simp
      rw [leftOf_eq hF'.hL, leftOf_eq hF.hL]
      omega

/-- Between two words of a line. -/
def InWord (f : Fx) (Bs Bf : Nat) (lv s' : ByteArray) (k : Int) (dn : Nat) (st0 : St) (n1 : Nat) (Ds : List Nat) (pre : List Wd) (W : World) : Prop := ∃ (cnt : Int) (st : St) (vE vO : Value) (vs : List Value),
  cnt = (dn : Int) + pre.length ∧ Fr f W s' k cnt st vE vO vs ∧ takeW f.v f.c dn st0 (wbs pre) = (0, 0, st) ∧ Mks f.w0.heap.size n1 Ds W ∧ Blk W Bs 9 [.string lv] ∧ Blk W Bf 152 [.func (.func 107) #[] #[]]

/-- A word has been refused. -/
def OutWord (f : Fx) (dn : Nat) (st0 : St) (n1 : Nat) (Ds : List Nat) (cd : Code) (pre : List Wd) (W : World) : Prop := cd = .ret ∧ ∃ e : Int, e ≠ 0 ∧ (takeW f.v f.c dn st0 (wbs pre)).1 = e ∧ (takeW f.v f.c dn st0 (wbs pre)).2.1 = (dn : Int) + pre.length ∧
  Blk W f.Be 34 [.int .i64 e] ∧ Blk W f.Ba 3 [.int .i64 ((dn : Int) + pre.length)] ∧ Chg f.S f.w0 W ∧ Mks f.w0.heap.size n1 Ds W

theorem inWord_own {f : Fx} {Bs Bf : Nat} {lv s' : ByteArray} {k : Int} {dn : Nat} {st0 : St} {n1 : Nat} {Ds : List Nat} (h2 : 3 < f.w0.heap.size) (hn : f.w0.heap.size ≤ n1) : OwnFrom n1 (InWord f Bs Bf lv s' k dn st0 n1 Ds) := by
  rintro pre A B row ⟨cnt, st, vE, vO, vs, hc, hF, ht, hM, b1, b2⟩ hg hr
  have hs : Same f.w0.heap.size A B := Same.of_grown hg hF.chg.size (fun k e => ⟨by have := (hr k e).1; omega, (hr k e).2⟩)
  exact ⟨cnt, st, vE, vO, vs, hc, hF.same hs h2, ht, hM.own hg (fun r e => (hr r e).1), b1.same hs, b2.same hs⟩

theorem outWord_own {f : Fx} {dn : Nat} {st0 : St} {n1 : Nat} {Ds : List Nat} {cd : Code} (hn : f.w0.heap.size ≤ n1) : OwnFrom n1 (OutWord f dn st0 n1 Ds cd) := by
  rintro pre A B row ⟨hcd, e, h1, h2, h3, h4, h5, h6, h7⟩ hg hr
  have hs : Same f.w0.heap.size A B := Same.of_grown hg h6.size (fun k e => ⟨by have := (hr k e).1; omega, (hr k e).2⟩)
  exact ⟨hcd, e, h1, h2, h3, h4.same hs, h5.same hs, h6.same hs, h7.own hg (fun r e => (hr r e).1)⟩

theorem takeW_snoc {v c k : Nat} {s st : St} {ws : List Bytes} (x : Bytes) (h : takeW v c k s ws = (0, 0, st)) :
    takeW v c k s (ws ++ [x]) = if (take1 v c st x).1 = 0 then (0, 0, (take1 v c st x).2) else ((take1 v c st x).1, ((k + ws.length : Nat) : Int) + 1, st) := by
  rw [takeW_append _ _ _ _ _ _ (by rw [h]), h]
  unfold takeW
  split
  · rfl
  · rfl

theorem word_on {f : Fx} (ok : f.Ok) {W w' : World} {Bs Bf : Nat} {lv s' : ByteArray} {k cnt : Int} {st st' : St} {vE vO vE' vO' : Value} {vs vs' : List Value} (hF : Fr f W s' k cnt st vE vO vs) (kBs : Blk W Bs 9 [.string lv]) (kBf : Blk W Bf 152 [.func (.func 107) #[] #[]])
    (hB' : Blk w' f.B 123 [.int .i64 f.v, .int .i64 f.c, vE', vO']) (hM' : Made w' f.base vE' vO' vs' st') (hC' : Chg (fun k => k = f.B ∨ vE.ownBlock = some k ∨ vO.ownBlock = some k) (W.setCell ⟨f.Bc, 0, none⟩ (.int .i64 (cnt + 1))) w')
    (hO' : ∀ k, OB vs' vO' k → OB vs vO k ∨ (W.setCell ⟨f.Bc, 0, none⟩ (.int .i64 (cnt + 1))).heap.size ≤ k) :
    Fr f w' s' k (cnt + 1) st' vE' vO' vs' ∧ KeepsOthers W w' ∧ Kept Bs Bf W w' ∧ Blk w' Bs 9 [.string lv] ∧ Blk w' Bf 152 [.func (.func 107) #[] #[]] := by
  have hF1 := hF.counted ok (cnt + 1)
  have hF2 := hF1.took ok hB' hM' hC' hO'
  have hc : Chg (· = f.Bc) W (W.setCell ⟨f.Bc, 0, none⟩ (.int .i64 (cnt + 1))) := (Chg.refl (· = f.Bc) W).setB f.Bc 0 rfl _
  have b1 := kBs.chg hc (blk_ne kBs hF.bc (by decide))
  have b2 := kBf.chg hc (blk_ne kBf hF.bc (by decide))
  have key : ∀ {g : Nat} {t : TypeId} {L : List Value}, Blk (W.setCell ⟨f.Bc, 0, none⟩ (.int .i64 (cnt + 1))) g t L → t ≠ 123 → t ≠ 24 → t ≠ 3 → ¬ (g = f.B ∨ vE.ownBlock = some g ∨ vO.ownBlock = some g) := by
    intro g t L hg h1 h2 h3 e
    rcases e with e | e | e
    · exact blk_ne hg hF1.hB h1 e
    · exact own_blk hF1.made.oe hg (fun e => h2 e.symm) e
    · exact own_blk hF1.made.oo hg (fun e => h3 e.symm) e
  have d1 := b1.chg hC' (key b1 (by decide) (by decide) (by decide))
  have d2 := b2.chg hC' (key b2 (by decide) (by decide) (by decide))
  have lb := ok.b
  have nw := ok.new
  have hw0 := hF.chg.size
  have hbs := ok.base
  have low : ∀ g, g ≤ 3 → w'.heap[g]? = W.heap[g]? := by
    intro g hg
    have hs2 := size2 hF.tabs
    refine (hC'.block g ?_ ?_).trans (hc.block g (by omega) (by omega))
    · have := hc.size; omega
    · intro e
      rcases e with e | e | e
      · omega
      · have := (hF1.made.oe.lt e).1; omega
      · have := (hF1.made.oo.lt e).1; omega
  refine ⟨hF2, hc.keeps.trans hC'.keeps, ?_, d1, d2⟩
  intro g hg
  rcases hg with rfl | rfl | rfl | rfl
  · exact d1.trans kBs.symm
  · exact d2.trans kBf.symm
  · exact low 2 (by omega)
  · exact low 3 (by omega)

theorem takeAll_stop {v c : Nat} {done ws us : List Bytes} {st0 : St} {e a : Int} (hd : takeW v c 0 ⟨[], []⟩ done = (0, 0, st0)) (h1 : (takeW v c done.length st0 ws).1 = e) (h0 : e ≠ 0) (h2 : (takeW v c done.length st0 ws).2.1 = a) :
    (takeAllW v c (done ++ (ws ++ us))).1 = e ∧ (takeAllW v c (done ++ (ws ++ us))).2.1 = a := by
  have : takeW v c 0 ⟨[], []⟩ (done ++ (ws ++ us)) = takeW v c done.length st0 ws := by
    rw [takeW_append _ _ _ _ _ _ (by rw [hd]), hd]
    simp only [Nat.zero_add]
    exact takeW_stop _ _ _ _ _ _ (by rw [h1]; exact h0)
  unfold takeAllW
  simp only [this]
  rw [if_neg (by rw [h1]; exact h0)]
  exact ⟨h1, h2⟩

theorem kept_trans {Bs Bf : Nat} {A B C : World} (h : Kept Bs Bf A B) (k : Kept Bs Bf B C) : Kept Bs Bf A C := fun i hi => (k i hi).trans (h i hi)
theorem kept_put {Bs Bf : Nat} {w : World} (h1 : Bs < w.heap.size) (h2 : Bf < w.heap.size) (h3 : 3 < w.heap.size) (W : World) (l : Nat) (o o' : Obj) (hl : w.heap.size ≤ l) (h : W.heap[l]? = some o) (_ : o.isCells = false) (_ : o.isWalk = false) : Kept Bs Bf W (W.putObj l o') := by
  intro k hk
  refine (grownBy_putObj' W l o').block k ?_ ?_
  · have := (Array.getElem?_eq_some_iff.1 h).1
    rcases hk with rfl | rfl | rfl | rfl <;> omega
  · intro e
    have e' : k = l := by simpa using e
    rcases hk with rfl | rfl | rfl | rfl <;> omega

set_option maxRecDepth 100000 in
set_option maxHeartbeats 4000000 in
theorem takeAll_any (B L base v c : Nat) (s : ByteArray) (k m : Int) (w : World) (hB : Blk w B 123 [.int .i64 v, .int .i64 c, .slice none 0 0, .slice none 0 0]) (hL : Blk w L 117 [.string s, .int .i64 k]) (hb : 3 < B ∧ B < base) (hl : 3 < L ∧ L < base) (hbase : base ≤ w.heap.size) (hc : c ≤ 200)
    (hs : s.size ≤ 1100000) (hk : 0 ≤ k ∧ k ≤ 1100000) (hT : Lib.Utf8Tabs 2 3 w) (hm : w.cell? ⟨1, 0, none⟩ = some (.int .i64 m)) :
    Calls Tryd.prog 88 #[.pointer (some ⟨B, 0, none⟩), .pointer (some ⟨L, 0, none⟩)] w fun e w' => ∃ f : Fx, f.w0 = w ∧ f.B = B ∧ f.L = L ∧ f.base = base ∧ f.v = v ∧ f.c = c ∧ TookAll f (wordsOf (rows (bs s))) e w' := by
  refine (callsIn_wide (n := 9)).1 ?_
  refine callsIn_of_wp_marks Tryd.func88 rfl trivial ?_ rfl
  simp only [Tryd.ntmps88, List.size_toArray, List.length_cons, List.length_nil, Nat.reduceAdd, Nat.reduceSub, Array.replicate_succ, Array.replicate_zero, List.push_toArray, List.append_toArray, List.nil_append, List.cons_append]
  have F0 := fr_start B L base v c s k m w hB hL hT hm
  have ok : Fx.Ok ⟨w, B, L, base, w.heap.size, w.heap.size + 1, w.heap.size + 1 + 1, w.heap.size + 1 + 1 + 1, v, c, m⟩ := ⟨hbase, hb, hl, ⟨Nat.le_refl _, by show w.heap.size ≤ w.heap.size + 1; omega, by show w.heap.size ≤ w.heap.size + 1 + 1; omega, by show w.heap.size ≤ w.heap.size + 1 + 1 + 1; omega⟩, by show w.heap.size + 1 + 1 ≠ w.heap.size + 1 + 1 + 1; omega, hc⟩
  gi_wp2_with fail
  refine ⟨trivial, ?_⟩
  generalize ((((w.alloc (.cells #[.pointer (some ⟨B, 0, none⟩)] 148)).alloc (.cells #[.int .i64 0] 34)).alloc (.cells #[.int .i64 0] 3)).alloc (.cells #[.int .i64 0] 3)) = W0 at *
  refine (callsIn_wide.2 (next_any L s k m W0 F0.hL (by omega) (by omega) F0.m0 (by omega))).mono ?_
  rintro e W1 ⟨hnx, hcx⟩
  obtain ⟨lv, b, rfl, hBt, -⟩ := between_next ok F0 (Ds := []) (done := []) ⟨List.nodup_nil, fun D h => by simp at h⟩ rfl (by rfl) hs (by omega) hnx hcx
  gi_wp2
  refine wpIn_loop (LoopInv ⟨w, B, L, base, w.heap.size, w.heap.size + 1, w.heap.size + 1 + 1, w.heap.size + 1 + 1 + 1, v, c, m⟩ (wordsOf (rows (bs s)))) (meas ⟨w, B, L, base, w.heap.size, w.heap.size + 1, w.heap.size + 1 + 1, w.heap.size + 1 + 1 + 1, v, c, m⟩) ?start ?round
  case start => exact ⟨lv, b, [], _, _, _, _, _, _, _, _, _, _, _, _, _, _, _, _, _, _, _, _, _, _, _, _, _, _, _, _, _, _, _, _, _, hBt, rfl⟩
  case round =>
    clear F0 hnx hcx hBt
    rintro a W ⟨lv, b, Ds, u9, u10, u11, u12, u13, u14, u15, u16, u17, u18, u19, u20, u21, u22, u23, u24, u25, u26, u27, u28, u29, u30, u31, u32, u33, u34, u35, u36, u37, u38, u39, u40, u41, hBt, rfl⟩
    dsimp only
    cases b with
    | false =>
      obtain ⟨s', k', done, st, vE, vO, vs, hF, hM, hd, hall, -⟩ := hBt
      have cb : W.cell? ⟨w.heap.size, 0, none⟩ = some (.pointer (some ⟨B, 0, none⟩)) := hF.bb.cell (i := 0) (by simp) undef
      have hbl' := lacks_any B base v c vE vO vs st W hF.hB hF.made
      have hst : Hid (takeAllW v c (wordsOf (rows (bs s))) = if lacks c st = 0 then (0, 0, st) else (lacks c st, (done.length : Int) + 1, st)) := by
        show _ = _
        have : wordsOf (rows (bs s)) = done := by rw [hall]; simp
        rw [this]
        unfold takeAllW
        simp only
        rw [hd]
        simp
      have h2w : 3 < w.heap.size := size2 hT
      have hdl : done.length ≤ 1200000 := by
        have h1 := words_count (rows (bs s))
        have h2 := bulk_rows (bs s)
        rw [hall, List.length_append] at h1
        rw [← size_bs] at h2
        omega
      have hwr : wrap64 ((done.length : Int) + 1) = (done.length : Int) + 1 := by unfold wrap64; omega
      by_cases hz : lacks c st = 0
      · rw [hz] at hbl'
        have hst' : Hid (takeAllW v c (wordsOf (rows (bs s))) = (0, 0, st)) := by show _ = _; rw [hst.out, if_pos hz]
        clear hst hall hd
        gi_wp2_with (refine ⟨trivial, ?_⟩; gi_at_call 109; refine (callsIn_wide.2 hbl').mono ?_; rintro e w' ⟨rfl, hbl⟩; have hF' := hF.same (Same.of_below hbl hF.chg.size) h2w; have hM' := hM.keeps (Chg.of_below (S := fun _ => False) hbl).keeps; have g4 : w'.cell? ⟨w.heap.size + 1, 0, none⟩ = some (.int .i64 0) := hF'.be.cell (i := 0) (by simp) undef; have g5 : w'.cell? ⟨w.heap.size + 1 + 1, 0, none⟩ = some (.int .i64 0) := hF'.ba.cell (i := 0) (by simp) undef; have r4 : w'.frozen? ⟨w.heap.size + 1, 0, none⟩ = false := hF'.be.frozen 0; have r5 : w'.frozen? ⟨w.heap.size + 1 + 1, 0, none⟩ = false := hF'.ba.frozen 0)
        obtain ⟨p1, p2, p3, p4, p5, p6⟩ := hF'.put ok 0 0
        exact leave19 (f := ⟨w, B, L, base, w.heap.size, w.heap.size + 1, w.heap.size + 1 + 1, w.heap.size + 1 + 1 + 1, v, c, m⟩) p1 p2 p4 (hM'.keeps p3.keeps) (by rw [show takeAllW _ _ _ = _ from hst'.out]) (by rw [show takeAllW _ _ _ = _ from hst'.out]) (fun _ => ⟨vE, vO, vs, p5, by rw [show takeAllW _ _ _ = _ from hst'.out]; exact p6⟩) rfl rfl
      · have hst' : Hid (takeAllW v c (wordsOf (rows (bs s))) = (lacks c st, (done.length : Int) + 1, st)) := by show _ = _; rw [hst.out, if_neg hz]
        have hz' : (lacks c st != 0) = true := by simp [hz]
        clear hst hall hd
        gi_wp2_with (refine ⟨trivial, ?_⟩; gi_at_call 109; refine (callsIn_wide.2 hbl').mono ?_; rintro e w' ⟨rfl, hbl⟩; have hF' := hF.same (Same.of_below hbl hF.chg.size) h2w; have hM' := hM.keeps (Chg.of_below (S := fun _ => False) hbl).keeps; have g4 : w'.cell? ⟨w.heap.size + 1, 0, none⟩ = some (.int .i64 0) := hF'.be.cell (i := 0) (by simp) undef; have g5 : w'.cell? ⟨w.heap.size + 1 + 1, 0, none⟩ = some (.int .i64 0) := hF'.ba.cell (i := 0) (by simp) undef; have g6 : w'.cell? ⟨w.heap.size + 1 + 1 + 1, 0, none⟩ = some (.int .i64 (done.length : Int)) := hF'.bc.cell (i := 0) (by simp) undef; have r4 : w'.frozen? ⟨w.heap.size + 1, 0, none⟩ = false := hF'.be.frozen 0; have r5 : w'.frozen? ⟨w.heap.size + 1 + 1, 0, none⟩ = false := hF'.ba.frozen 0)
        gi_region
        all_goals gi_wp2
        all_goals
          obtain ⟨p1, p2, p3, p4, p5, p6⟩ := hF'.put ok (lacks c st) ((done.length : Int) + 1)
          exact leave19 (f := ⟨w, B, L, base, w.heap.size, w.heap.size + 1, w.heap.size + 1 + 1, w.heap.size + 1 + 1 + 1, v, c, m⟩) p1.drew p2.drew p4.drew (hM'.keeps p3.drew.keeps) (by rw [show takeAllW _ _ _ = _ from hst'.out]) (by rw [show takeAllW _ _ _ = _ from hst'.out]) (fun h => absurd h hz) rfl rfl
    | true =>
      obtain ⟨s', k', done, st, vE, vO, vs, hF, hM, hd, hall, hbd⟩ := hBt
      obtain ⟨hlv, hs', hk0, hk'⟩ := hbd rfl
      have h2w : 3 < w.heap.size := size2 hT
      have hsq := seq_any lv W
      gi_wp2_with (refine ⟨trivial, ?_⟩; gi_at_call 106; refine (callsIn_wide.2 hsq).mono ?_; clear hsq; rintro e W2 ⟨Bs, Bf, rfl, hBs, hBf, kBs, kBf, hb2⟩)
      have hF2 := hF.same (Same.of_below hb2 hF.chg.size) h2w
      have hM2 := (hM.keeps (Chg.of_below (S := fun _ => False) hb2).keeps).mono hb2.size
      have hn1 : w.heap.size ≤ W2.heap.size := hF2.chg.size
      have hRd : Reads Bs Bf lv W2 := ⟨kBs.cell (i := 0) (by simp) undef, kBf.cell (i := 0) (by simp) undef, hF2.tabs⟩
      have hds : Hid (takeW v c 0 ⟨[], []⟩ done = (0, 0, st)) := hd
      have hal : Hid (wordsOf (rows (bs s)) = done ++ (fields [] (bs lv) ++ wordsOf (rows (bs s')))) := hall
      clear hd hall hbd
      refine wpIn_rangeFunc_ownF rfl (by omega) (gf := 121) (lb := #[.pointer (some ⟨Bs, 0, none⟩), .pointer (some ⟨Bf, 0, none⟩)]) rfl trivial (enters_of Tryd.func121 (by kernel_rfl) rfl)
        (seq_stops 8 Bs Bf (by omega) lv (by omega) W2 hRd) (fun h k => kept_trans h k) (kept_put kBs.lt kBf.lt (by omega)) (Below.refl _ _) (fun _ => rfl)
        (InWord ⟨w, B, L, base, w.heap.size, w.heap.size + 1, w.heap.size + 1 + 1, w.heap.size + 1 + 1 + 1, v, c, m⟩ Bs Bf lv s' k' done.length st W2.heap.size Ds) (OutWord ⟨w, B, L, base, w.heap.size, w.heap.size + 1, w.heap.size + 1 + 1, w.heap.size + 1 + 1 + 1, v, c, m⟩ done.length st W2.heap.size Ds)
        (inWord_own h2w hn1) (fun _ => outWord_own hn1)
        ⟨_, st, vE, vO, vs, rfl, by simpa using hF2, rfl, hM2, kBs, kBf⟩
        (fun x => { tmps := #[.pointer (some ⟨B, 0, none⟩), .pointer (some ⟨L, 0, none⟩), .pointer (some ⟨w.heap.size, 0, none⟩), undef, .pointer (some ⟨w.heap.size + 1, 0, none⟩), .pointer (some ⟨w.heap.size + 1 + 1, 0, none⟩), .pointer (some ⟨w.heap.size + 1 + 1 + 1, 0, none⟩), .string lv, .bool true, .string x.1, u10, u11, u12, u13, u14, u15, u16, .bool true, u18, u19, u20, u21, u22, .string lv, .func (.func 121) #[] #[.pointer (some ⟨Bs, 0, none⟩), .pointer (some ⟨Bf, 0, none⟩)], .string x.1, u26, u27, u28, u29, u30, u31, u32, u33, u34, u35, u36, u37, u38, u39, u40, u41], defers := [] }) ?assign ?body ?done ?stop
      case assign =>
        intro l x W3 K hK
        gi_wp2
        exact hK
      case body =>
        rintro l pre x W3 ⟨cnt, st3, vE3, vO3, vs3, hcnt, hF3, hT3, hM3, b1, b2⟩ hlen
        have hF1 := hF3.counted ok (cnt + 1)
        have hlen2 := takeW_len v c 0 ⟨[], []⟩ done (by simp) (by simp) (by simp)
        rw [hds.out] at hlen2
        have hlen3 := takeW_len v c done.length st (wbs pre) hlen2.1 hlen2.2.1 hlen2.2.2
        rw [show takeW v c done.length st (wbs pre) = (0, 0, st3) from hT3] at hlen3
        have hcb : 0 ≤ cnt ∧ cnt ≤ 1200000 := by
          have h1 := words_count (rows (bs s))
          have h2 := bulk_rows (bs s)
          rw [hal.out, List.length_append, List.length_append] at h1
          rw [← size_bs] at h2
          omega
        have g2 : W3.cell? ⟨w.heap.size, 0, none⟩ = some (.pointer (some ⟨B, 0, none⟩)) := hF3.bb.cell (i := 0) (by simp) undef
        have g6 : W3.cell? ⟨w.heap.size + 1 + 1 + 1, 0, none⟩ = some (.int .i64 cnt) := hF3.bc.cell (i := 0) (by simp) undef
        have r6 : W3.frozen? ⟨w.heap.size + 1 + 1 + 1, 0, none⟩ = false := hF3.bc.frozen 0
        have g2' : (W3.setCell ⟨w.heap.size + 1 + 1 + 1, 0, none⟩ (.int .i64 (cnt + 1))).cell? ⟨w.heap.size, 0, none⟩ = some (.pointer (some ⟨B, 0, none⟩)) := hF1.bb.cell (i := 0) (by simp) undef
        have hbz : base ≤ (W3.setCell ⟨w.heap.size + 1 + 1 + 1, 0, none⟩ (.int .i64 (cnt + 1))).heap.size := by have := hF1.chg.size; dsimp only at this; omega
        have t1 := take1_any B base v c x.1 vE3 vO3 vs3 st3 (W3.setCell ⟨w.heap.size + 1 + 1 + 1, 0, none⟩ (.int .i64 (cnt + 1))) hF1.hB hF1.made hc hlen3.2.1 hlen3.1 hbz hb.2 x.2.1 x.2.2
        have hsn := takeW_snoc (bs x.1) (show takeW v c done.length st (wbs pre) = (0, 0, st3) from hT3)
        have hwx : wbs (pre ++ [x]) = wbs pre ++ [bs x.1] := by simp [wbs]
        have hCnt : Hid (cnt = (done.length : Int) + pre.length) := hcnt
        have hX : Hid (takeW v c done.length st (wbs (pre ++ [x])) = if (take1 v c st3 (bs x.1)).1 = 0 then (0, 0, (take1 v c st3 (bs x.1)).2) else ((take1 v c st3 (bs x.1)).1, ((done.length + (wbs pre).length : Nat) : Int) + 1, st3)) := by
          show _ = _
          rw [hwx]
          exact hsn
        clear hsn hwx hlen2 hlen3 hT3 hcnt hlen
        by_cases h0 : (take1 v c st3 (bs x.1)).1 = 0
        · rw [h0] at t1
          have hX' : Hid (takeW v c done.length st (wbs (pre ++ [x])) = (0, 0, (take1 v c st3 (bs x.1)).2)) := by show _ = _; rw [hX.out, if_pos h0]
          clear hX
          gi_wp2_with (refine ⟨trivial, ?_⟩; gi_at_call 108; refine (CallsIn.inRound l (callsIn_wide.2 t1)).mono ?_; clear t1; rintro e w' ⟨rfl, vE', vO', vs', hB', hM', hC', hO'⟩)
          obtain ⟨q1, q2, q3, q4, q5⟩ := word_on (f := ⟨w, B, L, base, w.heap.size, w.heap.size + 1, w.heap.size + 1 + 1, w.heap.size + 1 + 1 + 1, v, c, m⟩) ok hF3 b1 b2 hB' hM' hC' hO'
          exact ⟨q2, q3, cnt + 1, _, vE', vO', vs', by rw [hCnt.out]; simp; omega, q1, hX'.out, hM3.keeps q2, q4, q5⟩
        · have hX' : Hid (takeW v c done.length st (wbs (pre ++ [x])) = ((take1 v c st3 (bs x.1)).1, ((done.length + (wbs pre).length : Nat) : Int) + 1, st3)) := by show _ = _; rw [hX.out, if_neg h0]
          clear hX
          have h0' : ((take1 v c st3 (bs x.1)).1 != 0) = true := by simp [h0]
          have HZ : Hid ((take1 v c st3 (bs x.1)).1 ≠ 0) := h0
          clear h0
          gi_wp2_with (refine ⟨trivial, ?_⟩; gi_at_call 108; refine (CallsIn.inRound l (callsIn_wide.2 t1)).mono ?_; clear t1; rintro e w' ⟨rfl, vE', vO', vs', hB', hM', hC', hO'⟩; obtain ⟨q1, q2, q3, q4, q5⟩ := word_on (f := ⟨w, B, L, base, w.heap.size, w.heap.size + 1, w.heap.size + 1 + 1, w.heap.size + 1 + 1 + 1, v, c, m⟩) ok hF3 b1 b2 hB' hM' hC' hO'; have y4 : w'.cell? ⟨w.heap.size + 1, 0, none⟩ = some (.int .i64 0) := q1.be.cell (i := 0) (by simp) undef; have y5 : w'.cell? ⟨w.heap.size + 1 + 1, 0, none⟩ = some (.int .i64 0) := q1.ba.cell (i := 0) (by simp) undef; have y6 : w'.cell? ⟨w.heap.size + 1 + 1 + 1, 0, none⟩ = some (.int .i64 (cnt + 1)) := q1.bc.cell (i := 0) (by simp) undef; have z4 : w'.frozen? ⟨w.heap.size + 1, 0, none⟩ = false := q1.be.frozen 0; have z5 : w'.frozen? ⟨w.heap.size + 1 + 1, 0, none⟩ = false := q1.ba.frozen 0)
          gi_region
          all_goals gi_wp2
          all_goals
            obtain ⟨p1, p2, p3, p4, p5, p6⟩ := q1.put ok (take1 v c st3 (bs x.1)).1 (cnt + 1)
            refine ⟨q2.trans p3.drew.keeps, rfl, _, HZ.out, by rw [show takeW _ _ _ _ _ = _ from hX'.out], ?_, p1.drew, ?_, p4.drew, (hM3.keeps q2).keeps p3.drew.keeps⟩
            · rw [show takeW _ _ _ _ _ = _ from hX'.out]; simp; omega
            · have hcc : ((done.length : Int) + ((pre ++ [x]).length : Nat)) = cnt + 1 := by rw [hCnt.out]; simp; omega
              rw [hcc]
              exact p2.drew
      case done =>
        rintro D xs W3 hD hS ⟨cnt, st3, vE3, vO3, vs3, hcnt, hF3, hT3, hM3, b1, b2⟩ hK
        have hd' : takeW v c 0 ⟨[], []⟩ (done ++ fields [] (bs lv)) = (0, 0, st3) := by
          rw [takeW_append _ _ _ _ _ _ (by rw [hds.out]), hds.out, ← hS]
          simp only [Nat.zero_add]
          exact hT3
        have hxl : xs.length = (fields [] (bs lv)).length := by rw [← hS]; simp
        have hF3' : Fr ⟨w, B, L, base, w.heap.size, w.heap.size + 1, w.heap.size + 1 + 1, w.heap.size + 1 + 1 + 1, v, c, m⟩ W3 s' k' ((done ++ fields [] (bs lv)).length) st3 vE3 vO3 vs3 := by
          have : cnt = (((done ++ fields [] (bs lv)).length : Nat) : Int) := by rw [hcnt, List.length_append, hxl]; simp
          rw [← this]; exact hF3
        have hM3' : Mks w.heap.size W3.heap.size (D :: Ds) W3 := hM3.cons hn1 hD (Array.getElem?_eq_some_iff.1 hK).1 hK
        have hall' : wordsOf (rows (bs s)) = (done ++ fields [] (bs lv)) ++ wordsOf (rows (bs s')) := by rw [hal.out, List.append_assoc]
        have hlf : leftOf W3 L = leftOf W L := by rw [leftOf_eq hF3'.hL, leftOf_eq hF.hL]
        have nx := next_any L s' k' m W3 hF3'.hL (by omega) (by omega) hF3'.m0 (by omega)
        dsimp only
        gi_wp2_with (refine ⟨trivial, ?_⟩; gi_at_call 86; refine (callsIn_wide.2 nx).mono ?_; clear nx; rintro e W4 ⟨hnx, hcx⟩; obtain ⟨lv', b', rfl, hBt', hlt⟩ := between_next ok hF3' hM3' hd' hall' hs' ⟨hk0, hk'⟩ hnx hcx)
        refine ⟨⟨lv', b', D :: Ds, _, _, _, _, _, _, _, _, _, _, _, _, _, _, _, _, _, _, _, _, _, _, _, _, _, _, _, _, _, _, _, _, _, hBt', rfl⟩, ?_⟩
        show (if okOf (.bool b') = true then leftOf W4 L + 1 else 0) < (if okOf (.bool true) = true then leftOf W L + 1 else 0)
        rw [← hlf]
        exact hlt
      case stop =>
        rintro D cd pre W3 hD hS ⟨rfl, e, he0, h1, h2, hbe, hba, hC3, hM3⟩ hK
        gi_wp2
        have hMk : Mks w.heap.size (D + 1) (D :: Ds) W3 := hM3.cons hn1 hD (Nat.lt_succ_self _) hK
        obtain ⟨t, ht⟩ := hS
        obtain ⟨z1, z2⟩ := takeAll_stop (us := t ++ wordsOf (rows (bs s'))) hds.out h1 he0 h2
        have hal2 : wordsOf (rows (bs s)) = done ++ (wbs pre ++ (t ++ wordsOf (rows (bs s')))) := by rw [hal.out, ← ht, List.append_assoc]
        exact leave19 (f := ⟨w, B, L, base, w.heap.size, w.heap.size + 1, w.heap.size + 1 + 1, w.heap.size + 1 + 1 + 1, v, c, m⟩) (Ds := D :: Ds) hbe hba hC3 hMk (by rw [hal2]; exact z1) (by rw [hal2]; exact z2) (fun h => absurd h he0) rfl rfl
end Go.Proofs.YtlodenfdcckemaaDoor
