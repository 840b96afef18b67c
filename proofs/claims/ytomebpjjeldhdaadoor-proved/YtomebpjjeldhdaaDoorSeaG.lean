/-
  The walk of the search.
-/
import Derived.Test.YtomebpjjeldhdaaDoorSeaE
namespace Go.Proofs.YtomebpjjeldhdaaDoor
open Go.RowKit Go.Shelf

set_option maxRecDepth 100000 in
set_option maxHeartbeats 4000000 in
theorem folOf_more (V : Nat) (hV : V ≤ 20) (ao : Option Addr) (cap : Nat) (cs : List (List Int)) (w : World) (hc : ListsAt w w.heap.size ao cs) (hlit : ∀ c ∈ cs, ∀ l ∈ c, IsLit V l) (hlen : cs.length ≤ 200) (heach : ∀ c ∈ cs, c.length ≤ 20) :
    Calls Tryd.prog 57 #[.agg #[.int .i64 V, .slice ao cs.length cap]] w fun e w' => ∃ H v, e = .returned (.pointer (some ⟨H, 0, none⟩)) ∧ Cls w' H v (keptOf cs) ∧ Cover V (keptOf cs) cs ∧ (keptOf cs).length ≤ cs.length ∧ w.heap.size ≤ H ∧ (∀ k, v.ownBlock = some k → w.heap.size ≤ k) ∧ Below w.heap.size w w' := by
  go_enter Tryd.func57, Tryd.ntmps57
  go_wp2
  have b1 := alloc_below w (.cells #[.int .i64 V, .slice ao cs.length cap] 31)
  have s1 := alloc_size w (.cells #[.int .i64 V, .slice ao cs.length cap] 31)
  generalize w.alloc (.cells #[.int .i64 V, .slice ao cs.length cap] 31) = w1 at *
  have b2 := alloc_below w1 (.cells #[.slice none 0 0] 123)
  have s2 := alloc_size w1 (.cells #[.slice none 0 0] 123)
  have B2 : Blk (w1.alloc (.cells #[.slice none 0 0] 123)) w1.heap.size 123 [.slice none 0 0] := blk_new w1 [.slice none 0 0] 123
  have HW2 : Hid (Cls (w1.alloc (.cells #[.slice none 0 0] 123)) w1.heap.size (.slice none 0 0) [] ∧ Below w.heap.size w (w1.alloc (.cells #[.slice none 0 0] 123))) := ⟨⟨B2, Own.nil _ _ _⟩, b1.trans (b2.mono b1.size)⟩
  generalize w1.alloc (.cells #[.slice none 0 0] 123) = w2 at *
  have hH : w1.heap.size = w.heap.size + 1 := s1
  rw [hH] at HW2
  clear B2 b2 s2 hH b1 s1
  go_loopw [11] (fun x wr => ∃ (i : Nat) (v : Value), i ≤ cs.length ∧ x = .int .i64 i ∧ Hid (Cls wr (w.heap.size + 1) v (keptOf (cs.take i))) ∧ Hid (Cover V (keptOf (cs.take i)) (cs.take i)) ∧ Hid ((keptOf (cs.take i)).length ≤ i) ∧ Hid (∀ k, v.ownBlock = some k → w.heap.size ≤ k) ∧ Hid (Below w.heap.size w wr)) (fun x _ => cs.length - (intOf x).toNat)
  case atStart => exact ⟨0, .slice none 0 0, Nat.zero_le _, rfl, HW2.out.1, Cover.none V, Nat.zero_le _, fun k e => by simp [Value.ownBlock] at e, HW2.out.2⟩
  case round =>
    obtain ⟨i, v, hi, rfl, HCl, HCo, HLe, HOw, HBe⟩ := hrel
    obtain ⟨K, HKe⟩ : ∃ K, Hid (K = keptOf (cs.take i)) := ⟨_, rfl⟩
    rw [← HKe.out] at HCl HCo HLe
    by_cases hlt : i < cs.length
    · have hcr := (hc.below HBe.out (Nat.le_refl _))
      obtain ⟨b, o, rfl, hb, hcell⟩ := hcr (by intro h; rw [h] at hlt; simp at hlt)
      obtain ⟨A, Cc, hck, hin⟩ := hcell i hlt
      have hmem := mem_lists hlt
      have hl := hlit _ hmem
      have he := heach _ hmem
      have HT : Hid (cs.take (i + 1) = cs.take i ++ [cs.getD i []]) := take_succ_lists cs i hlt
      have HKn : Hid (keptOf (cs.take (i + 1)) = addTo K (maskOf (cs.getD i []))) := by unfold Hid; rw [HT.out, keptOf, List.foldl_append, HKe.out]; rfl
      generalize cs.getD i [] = c at hck hin hl he HT HKn
      have HK64 : Hid (∀ k ∈ K, k < 18446744073709551616) := fun k hk => lt64 hV (HCo.out.small hk)
      have hm64 := lt64 hV (maskOf_lt hl)
      have c1 := litsOf_any V hV A Cc c wr w.heap.size hin hl (by omega)
      have c2 := add_any (w.heap.size + 1) v K (maskOf c) wr HCl.out HK64.out hm64 (by have := HLe.out; omega)
      have HL : Hid (∀ l ∈ c, IsLit V l) := hl
      generalize hmk : maskOf c = mk at *
      have HM : Hid (maskOf c = mk) := hmk
      clear hcell hin hmem hl hcr hmk
      go_wp2_with (first | (go_at_call 54; refine c1.mono ?_; rintro e w' ⟨rfl, hw'⟩; obtain rfl := hw'.symm) | (go_at_call 83; refine c2.mono ?_; rintro e w3 ⟨rfl, v3, hC3, hO3, hChg⟩))
      go_roundw
      case rel =>
        refine ⟨i + 1, v3, by omega, by go_num, by rw [HKn.out]; exact hC3, ?_, ?_, ?_, ?_⟩
        · rw [HKn.out, HT.out, ← HM.out]
          exact HCo.out.add hV HL.out
        · rw [HKn.out]
          have := addTo_len K mk
          have := HLe.out
          exact Nat.le_trans (addTo_len K mk) (by omega)
        · intro k e
          rcases hO3 k e with h | h
          · exact HOw.out k h
          · exact Nat.le_trans HBe.out.size h
        · refine HBe.out.trans (hChg.below HBe.out.size ?_)
          rintro k (h | h)
          · omega
          · exact HOw.out k h
      case measure => simp [intOf]; omega
    · obtain rfl : i = cs.length := by omega
      go_wp2
      go_ret
      have h := HCo.out
      have hk := HKe.out
      rw [List.take_length] at h hk
      subst hk
      exact ⟨_, v, rfl, HCl.out, h, HLe.out, by omega, HOw.out, HBe.out⟩


/-- How the search answers. -/
def RunEnd (J : List Nat → World → Prop) (e : Ending) (w' : World) : End → Prop
  | .sat S => e = .returned (.tuple #[sv S, .bool true])
  | .unsat F => e = .returned (.tuple #[sv 0, .bool false]) ∧ J F w'

/-- A state that the search can be in. -/
def RelR (V : Nat) (cs : List (List Int)) (ch : List Nat) (B0 : Nat) (J : List Nat → World → Prop) (w : World) (X H : Nat) (a1 : Value) (a0 : Cf) (a : Cf) (wr : World) : Prop := (∃ v vK, RunI ch B0 J w X H a1 a wr v vK) ∧ SInv V cs a ∧ ∀ e, Ends ch a e → Ends ch a0 e

theorem rel_min {V : Nat} {cs : List (List Int)} {ch : List Nat} {B0 : Nat} {J : List Nat → World → Prop} {w : World} {X H : Nat} {a1 : Value} {a0 a : Cf} {wr : World} (h : RelR V cs ch B0 J w X H a1 a0 a wr) : ∃ b, RelR V cs ch B0 J w X H a1 a0 b wr ∧ smeas V b = least (fun m => ∃ a, RelR V cs ch B0 J w X H a1 a0 a wr ∧ smeas V a = m) := (least_spec (p := fun m => ∃ a, RelR V cs ch B0 J w X H a1 a0 a wr ∧ smeas V a = m) ⟨a, h, rfl⟩).1

theorem rel_le {V : Nat} {cs : List (List Int)} {ch : List Nat} {B0 : Nat} {J : List Nat → World → Prop} {w : World} {X H : Nat} {a1 : Value} {a0 a : Cf} {wr : World} (h : RelR V cs ch B0 J w X H a1 a0 a wr) : least (fun m => ∃ a, RelR V cs ch B0 J w X H a1 a0 a wr ∧ smeas V a = m) ≤ smeas V a := (least_spec (p := fun m => ∃ a, RelR V cs ch B0 J w X H a1 a0 a wr ∧ smeas V a = m) ⟨a, h, rfl⟩).2 _ ⟨a, h, rfl⟩

theorem Turn.ends {ch : List Nat} {a0 a b : Cf} (h : ∀ e, Ends ch a e → Ends ch a0 e) (ht : Turn ch a (.inl b)) : ∀ e, Ends ch b e → Ends ch a0 e := fun e he => h e (.step ht he)

set_option maxRecDepth 100000 in
set_option maxHeartbeats 4000000 in
theorem run_any (n : Nat) (ao : Option Addr) (cap : Nat) (cs : List (List Int)) (gf : Nat) (cf : Array Value) (B0 : Nat) (J : List Nat → World → Prop) (hF : Found gf cf B0 J) (w : World) (hc : ListsAt w w.heap.size ao cs) (hg : Good n cs) (hB0 : B0 ≤ w.heap.size) (hJ : J [] w) :
    Calls Tryd.prog 62 #[.agg #[.int .i64 n, .slice ao cs.length cap], .func (.func gf) #[] cf] w fun e w' => ∃ en, Ends (chOf n cs) ⟨keptOf cs, [], []⟩ en ∧ EndOk n cs en ∧ RunEnd J e w' en ∧ Below B0 w w' := by
  have hn := hg.vars
  have hlit : ∀ c ∈ cs, ∀ l ∈ c, IsLit n l := fun c hc l hl => hg.lits c hc l hl
  have hw1 : Below w.heap.size w (w.alloc (.cells #[.int .i64 n, .slice ao cs.length cap] 31)) := (Below.refl _ _).alloc (Nat.le_refl _) _
  have Bf := blk_new w [.int .i64 n, .slice ao cs.length cap] 31
  dsimp only [List.toArray] at Bf
  go_enter Tryd.func62, Tryd.ntmps62
  go_wp2
  generalize w.alloc (.cells #[.int .i64 n, .slice ao cs.length cap] 31) = W0 at *
  have m0 : W0.cell? ⟨w.heap.size, 0, none⟩ = some (.int .i64 n) := Bf.cell (i := 0) (by simp) undef
  have m1 : W0.cell? ⟨w.heap.size, 1, none⟩ = some (.slice ao cs.length cap) := Bf.cell (i := 1) (by simp) undef
  have hc0 := (hc.below hw1 (Nat.le_refl _)).mono hw1.size
  have hc0d : ListsAt W0.drew W0.drew.heap.size ao cs := hc0.below (B' := W0.heap.size) ((Below.refl _ _).drew) (Nat.le_refl _)
  have cO := folOf_more n hn ao cap cs W0.drew hc0d hlit hg.many hg.long
  refine wp_cut (fun a W => (∃ H X vK a1, Cls W H vK (keptOf cs) ∧ Own W w.heap.size 84 a1 (svs (chOf n cs)) ∧ (∀ b, vK.ownBlock = some b → w.heap.size ≤ b ∧ a1.ownBlock ≠ some b) ∧ w.heap.size ≤ H ∧ w.heap.size ≤ X ∧ Blk W X 134 [.pointer (some ⟨H, 0, none⟩), a1, .slice none 0 0, .int .u64 0, .int .i64 0] ∧ Cover n (keptOf cs) cs ∧ (keptOf cs).length ≤ cs.length ∧ Below w.heap.size w W ∧
      ∃ (u9 u10 u11 u12 u13 u14 : Value), a = { tmps := #[.agg #[.int .i64 n, .slice ao cs.length cap], .func (.func gf) #[] cf, .pointer (some ⟨w.heap.size, 0, none⟩), undef, .int .u64 0, .bool false, .pointer (some ⟨X, 0, none⟩), undef, undef, u9, u10, u11, u12, u13, u14, undef, undef, undef, undef, undef, undef, undef, undef, undef, undef, undef, undef, undef, undef, undef, undef, undef, undef, undef, undef, undef, undef, undef, undef, undef, undef, undef], defers := [] })) ?_ ?_
  · go_region_law (first
      | (go_simp; go_at_call 57; refine cO.mono ?_; rintro e w1 ⟨H, vK, rfl, hCl, hCo, hLe, hH, hOw, hb1⟩; have Bf1 := Blk.below' (w := W0.drew) Bf hb1; have m01 : w1.cell? ⟨w.heap.size, 0, none⟩ = some (.int .i64 n) := Bf1.cell (i := 0) (by simp) undef; have m11 : w1.cell? ⟨w.heap.size, 1, none⟩ = some (.slice ao cs.length cap) := Bf1.cell (i := 1) (by simp) undef; have hc1 := (hc0d.below hb1 (Nat.le_refl _)).mono hb1.size; have cC := choices_any n ao cap cs w1 hc1 hg; dsimp only)
      | (go_simp; go_at_call 92; refine cC.mono ?_; rintro e w2 ⟨a1, rfl, hO2, hb2⟩; obtain ⟨ca, cc, hsh⟩ := hO2.shape; dsimp only))
    all_goals
      have hsh' : a1 = .slice ca (chOf n cs).length cc := by rw [hsh, List.length_map]
      rw [hsh'] at hO2
      have hs1 := hb1.size
      have hs0 := hw1.size
      have hs0' : W0.drew.heap.size = W0.heap.size := rfl
      have hbw1 : Below w.heap.size w w1 := hw1.trans ((Below.refl _ W0).drew.trans (hb1.mono (by rw [hs0']; exact hs0)))
      have hbw2 : Below w.heap.size w w2 := hbw1.trans (hb2.mono (by omega))
      refine ⟨H, w2.heap.size, vK, .slice ca (chOf n cs).length cc, ⟨(hCl.head.below' hb2).alloc _, (hCl.own.below' hb2).alloc _⟩, (hO2.lower (by omega)).alloc _, fun b e => ⟨by have := hOw b e; omega, fun e' => ?_⟩, by omega, hbw2.size, blk_new w2 [.pointer (some ⟨H, 0, none⟩), .slice ca (chOf n cs).length cc, .slice none 0 0, .int .u64 0, .int .i64 0] 134, hCo, hLe, hbw2.alloc hbw2.size _, _, _, _, _, _, _, rfl⟩
      have h1 := (hCl.own.lt e).2
      have h2 := (hO2.lt e').1
      omega
  · rintro _ W ⟨H, X, vK, a1, hCl, hO, hdis, hH, hX, hBX, hCo, hLe, hbW, u9, u10, u11, u12, u13, u14, rfl⟩
    have hCh := chOf_ok n cs
    have hChl := chOf_len n cs
    have hI0 : RunI (chOf n cs) B0 J w X H a1 ⟨keptOf cs, [], []⟩ W (.slice none 0 0) vK := ⟨⟨hBX, Or.inl ⟨rfl, rfl⟩⟩, hCl, hO.lower (Nat.zero_le _), fun b e => (hdis b e).2, hF.keep [] w W hJ (TChg.of_below hbW) (hbW.mono hB0), Nat.le_trans hB0 hX, Nat.le_trans hB0 hH, fun b e => by simp [Value.ownBlock] at e, fun b e => Nat.le_trans hB0 (hdis b e).1, hbW.mono hB0, Nat.le_trans hB0 hbW.size⟩
    have HR0 : Hid (RelR n cs (chOf n cs) B0 J w X H a1 ⟨keptOf cs, [], []⟩ ⟨keptOf cs, [], []⟩ W) := ⟨⟨_, _, hI0⟩, SInv.start hCo hLe, fun e h => h⟩
    have h200 := hg.many
    generalize hche : chOf n cs = ch at *
    generalize hae : (⟨keptOf cs, [], []⟩ : Cf) = a0 at *
    have HchE : Hid (chOf n cs = ch) := hche
    have HaE : Hid ((⟨keptOf cs, [], []⟩ : Cf) = a0) := hae
    clear hche hae
    clear hI0 hCl hO hdis hBX hCo hLe cO m0 m1 hc0 hc0d Bf hw1 hbW hc hlit
    go_wp2
    go_loopw [7] (fun _ wr => Hid (∃ a, RelR n cs ch B0 J w X H a1 a0 a wr)) (fun _ wr => least (fun m => ∃ a, RelR n cs ch B0 J w X H a1 a0 a wr ∧ smeas n a = m))
    case atStart => exact ⟨_, HR0.out⟩
    case round =>
      obtain ⟨ax, hax⟩ := hrel.out
      obtain ⟨a, ⟨⟨v, vK, hI⟩, hSI, hE⟩, hm⟩ := rel_min hax
      clear hax ax hrel
      obtain ⟨hFl, hKl⟩ := hSI.few hn h200
      have cA := advance_any n hn (Known n (withF cs a.F)) H vK a.K (fun k hk => hSI.cover.small hk) (fun k hk => hSI.cover.known hk) (by omega) X a1 v a.P wr hI.sea hI.cls hSI.trail
      have HM : Hid (smeas n a = least (fun m => ∃ a, RelR n cs ch B0 J w X H a1 a0 a wr ∧ smeas n a = m)) := hm
      have HI : Hid (RunI ch B0 J w X H a1 a wr v vK) := hI
      have HS : Hid (SInv n cs a) := hSI
      have HE : Hid (∀ e, Ends ch a e → Ends ch a0 e) := hE
      clear hm hI hSI hE
      go_wp2_with fail
      refine cA.mono ?_
      rintro e w1 ⟨P', o, v', hG, hT', rfl, hs1, hc1, hC1, hO1⟩
      have hI1 : RunI ch B0 J w X H a1 ⟨a.K, P', a.F⟩ w1 v' vK := HI.out.picks hF hs1 hC1 hO1 rfl rfl
      have hS1 := HS.out.more hn hG
      have h40 := hT'.short hn
      have hT64 := lt64 hn hT'.small
      clear cA
      cases o with
      | none =>
        have cC := choose_any X (.pointer (some ⟨H, 0, none⟩)) a1 v' ch P' w1 hs1 hI1.own (by omega) (fun l hl => by obtain ⟨m, hm, rfl⟩ := hCh.lit l hl; exact lt64 hn (two_pow_lt hm)) hT64 (by omega)
        have HI1 : Hid _ := hI1
        have HG : Hid (Goes a.K [] true a.P (P', none)) := hG
        have HS1 : Hid _ := hS1
        clear hI1 hS1 hG hs1 hc1 hC1 hO1
        simp only [lemAt, Option.isSome]
        go_wp2_with fail
        refine cC.mono ?_
        rintro e w2 (⟨hch, rfl, hb⟩ | ⟨l, v2, hch, rfl, hs2, hC2, hO2⟩)
        · have hI1 : RunI ch B0 J w X H a1 ⟨a.K, P', a.F⟩ w1 v' vK := HI1.out
          have c3 : w2.cell? ⟨X, 3, none⟩ = some (sv (truthOf P')) := (hI1.sea.head.below' hb).cell (i := 3) (by simp) undef
          have HOld : Hid (Below B0 w w2) := hI1.old.trans (hb.mono hI1.base)
          have HT : Hid (Turn ch a (.inr (.sat (truthOf P')))) := Turn.found (K := a.K) (P := a.P) (F := a.F) HG.out hch
          clear hI1
          go_wp2
          go_ret2
          exact ⟨.sat (truthOf P'), by rw [HchE.out, HaE.out]; exact HE.out _ (.last HT.out), HT.out.ok hn hCh HS.out, rfl, HOld.out⟩
        · have HT : Hid (Turn ch a (.inl ⟨a.K, ⟨l, 0, lv P' + 1⟩ :: P', a.F⟩)) := Turn.chose (K := a.K) (P := a.P) (F := a.F) HG.out hch
          go_wp2
          obtain ⟨hSb, hlt⟩ := HT.out.inv hn hCh HS.out
          have hI1 : RunI ch B0 J w X H a1 ⟨a.K, P', a.F⟩ w1 v' vK := HI1.out
          have hIb : RunI ch B0 J w X H a1 ⟨a.K, ⟨l, 0, lv P' + 1⟩ :: P', a.F⟩ w2 v2 vK := hI1.picks hF (by simpa only [truthOf, lv, if_true] using hs2) hC2 hO2 rfl rfl
          have hR : RelR n cs ch B0 J w X H a1 a0 ⟨a.K, ⟨l, 0, lv P' + 1⟩ :: P', a.F⟩ w2 := ⟨⟨_, _, hIb⟩, hSb, Turn.ends HE.out HT.out⟩
          exact ⟨⟨_, hR⟩, Nat.lt_of_le_of_lt (rel_le hR) (by rw [← HM.out]; exact hlt)⟩
      | some k =>
        have hlem := HS.out.lem hn hG
        have hc64 := lt64 hn hlem.small
        have ef := hF.enter
        have HC : Hid (lemAt P' (some k) = lemOf (falseAt (lv P') P' 0) (lv P') P' k) := rfl
        simp only [Option.isSome]
        rw [← HC.out] at hc64
        generalize lemAt P' (some k) = c at *
        have cFd := hF.call a.F c w1 hI1.fnd hc64 hI1.base hFl
        have HI1 : Hid (RunI ch B0 J w X H a1 ⟨a.K, P', a.F⟩ w1 v' vK) := hI1
        have HG : Hid (Goes a.K [] true a.P (P', some k)) := hG
        clear hI1 hS1 hG hs1 hc1 hC1 hO1 hlem
        by_cases h0 : c = 0
        · have h0' : ((c : Int) == 0) = true := by simp [h0]
          have HT : Hid (Turn ch a (.inr (.unsat (a.F ++ [0])))) := Turn.ended (K := a.K) (P := a.P) (F := a.F) HG.out (by rw [← HC.out]; exact h0)
          have H0 : Hid (c = 0) := h0
          clear h0
          go_wp2_with (go_at_fn gf; refine cFd.mono ?_; rintro e w2 ⟨rfl, hJ2, hb2, ht2⟩)
          go_ret2
          exact ⟨.unsat (a.F ++ [0]), by rw [HchE.out, HaE.out]; exact HE.out _ (.last HT.out), HT.out.ok hn hCh HS.out, ⟨rfl, by rw [← H0.out]; exact hJ2⟩, HI1.out.old.trans hb2⟩
        · have h0' : ((c : Int) == 0) = false := by simp [h0]
          have HT : Hid (Turn ch a (.inl ⟨addTo a.K c, popTo (backLev (lv P') c P') P', a.F ++ [c]⟩)) := Turn.learn (K := a.K) (P := a.P) (F := a.F) HG.out HC.out h0
          clear h0
          go_wp2_with (go_at_fn gf; refine cFd.mono ?_; rintro e w2 ⟨rfl, hJ2, hb2, ht2⟩)
          have hI2 : RunI ch B0 J w X H a1 ⟨a.K, P', a.F ++ [c]⟩ w2 v' vK := HI1.out.found hb2 ht2 hJ2
          refine (back_any n hn (Known n (withF cs a.F)) X (.pointer (some ⟨H, 0, none⟩)) a1 v' P' c w2 hI2.sea hT' (by omega) hc64).mono ?_
          rintro e w3 ⟨rfl, v3, hs3, ho3, hC3⟩
          have hI3 : RunI ch B0 J w X H a1 ⟨a.K, popTo (backLev (lv P') c P') P', a.F ++ [c]⟩ w3 v3 vK := hI2.picks hF hs3 hC3 (fun g e => Or.inl (by rw [← ho3]; exact e)) rfl rfl
          have x0 : w3.cell? ⟨X, 0, none⟩ = some (.pointer (some ⟨H, 0, none⟩)) := hI3.sea.head.cell (i := 0) (by simp) undef
          have cAd := add_any H vK a.K c w3 hI3.cls (fun k hk => lt64 hn (HS.out.cover.small hk)) hc64 (by omega)
          have HI3 : Hid _ := hI3
          clear hI3 hI2 hs3 hC3 cFd hJ2
          go_wp2_with fail
          refine cAd.mono ?_
          rintro e w4 ⟨rfl, vK4, hCl4, hO4, hC4⟩
          go_wp2
          obtain ⟨hSb, hlt⟩ := HT.out.inv hn hCh HS.out
          have hI3 : RunI ch B0 J w X H a1 ⟨a.K, popTo (backLev (lv P') c P') P', a.F ++ [c]⟩ w3 v3 vK := HI3.out
          have hIb : RunI ch B0 J w X H a1 ⟨addTo a.K c, popTo (backLev (lv P') c P') P', a.F ++ [c]⟩ w4 v3 vK4 := hI3.kept hF hCl4 hC4 hO4 rfl rfl
          have hR : RelR n cs ch B0 J w X H a1 a0 ⟨addTo a.K c, popTo (backLev (lv P') c P') P', a.F ++ [c]⟩ w4 := ⟨⟨_, _, hIb⟩, hSb, Turn.ends HE.out HT.out⟩
          exact ⟨⟨_, hR⟩, Nat.lt_of_le_of_lt (rel_le hR) (by rw [← HM.out]; exact hlt)⟩
end Go.Proofs.YtomebpjjeldhdaaDoor
