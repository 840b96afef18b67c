/-
  What follows at once: it holds in each assignment that makes all true, it is closed, it grows (of no program's walk).
-/
import Derived.Test.YtlodenfdcckemaaDoorH33
namespace Go.Proofs.YtlodenfdcckemaaDoor
open Go.RowKit

theorem tIn_neg (b : Nat) {l : Int} (h : l ≠ 0) : tIn b (-l) = !tIn b l := by
  unfold tIn
  by_cases hp : 0 < l
  · rw [if_neg (by omega), if_pos hp, Int.neg_neg]
  · rw [if_pos (by omega), if_neg hp, Bool.not_not]

theorem makesB_mem {b : Nat} {cs : List (List Int)} (h : makesB b cs = true) {c : List Int} (hc : c ∈ cs) : ∃ m ∈ c, tIn b m = true := by
  unfold makesB at h
  exact List.any_eq_true.1 (List.all_eq_true.1 h c hc)

theorem Fol.sound {C : List (List Int)} {G : Int → Prop} {b : Nat} (hm : makesB b C = true) (hz : ∀ c ∈ C, ∀ l ∈ c, l ≠ 0) (hg : ∀ l, G l → tIn b l = true) {l : Int} (h : Fol C G l) : tIn b l = true := by
  induction h with
  | given h => exact hg _ h
  | @unit c l hc hl _ ih =>
    obtain ⟨m, hmc, ht⟩ := makesB_mem hm hc
    by_cases e : m = l
    · rw [← e]; exact ht
    · have := ih m hmc e
      rw [tIn_neg b (hz c hc m hmc), ht] at this
      cases this

theorem Fol.nz {C : List (List Int)} {G : Int → Prop} (hz : ∀ c ∈ C, ∀ l ∈ c, l ≠ 0) (hg : ∀ l, G l → l ≠ 0) {l : Int} (h : Fol C G l) : l ≠ 0 := by
  cases h with
  | given h => exact hg _ h
  | unit hc hl _ => exact hz _ hc _ hl

theorem Conf.never {C : List (List Int)} {G : Int → Prop} {b : Nat} (hm : makesB b C = true) (hz : ∀ c ∈ C, ∀ l ∈ c, l ≠ 0) (hg0 : ∀ l, G l → l ≠ 0) (hg : ∀ l, G l → tIn b l = true) : ¬ Conf C G := by
  rintro (⟨l, h1, h2⟩ | ⟨c, hc, h⟩)
  · have a := h1.sound hm hz hg
    have b' := h2.sound hm hz hg
    rw [tIn_neg b (h1.nz hz hg0), a] at b'
    cases b'
  · obtain ⟨m, hmc, ht⟩ := makesB_mem hm hc
    have := (h m hmc).sound hm hz hg
    rw [tIn_neg b (hz c hc m hmc), ht] at this
    cases this

theorem Fol.through {C : List (List Int)} {G H : Int → Prop} (h : ∀ l, H l → Fol C G l) {l : Int} (hl : Fol C H l) : Fol C G l := by
  induction hl with
  | given k => exact h _ k
  | unit hc hl _ ih => exact .unit hc hl ih

theorem Conf.through {C : List (List Int)} {G H : Int → Prop} (h : ∀ l, H l → Fol C G l) (hc : Conf C H) : Conf C G := by
  rcases hc with ⟨l, h1, h2⟩ | ⟨c, hc, hm⟩
  · exact .inl ⟨l, h1.through h, h2.through h⟩
  · exact .inr ⟨c, hc, fun m hmc => (hm m hmc).through h⟩

theorem mem_tellOf {V : Nat} {T : Int → Bool} {l : Int} : l ∈ tellOf V T ↔ IsLit V l ∧ T l = true := by
  unfold tellOf
  rw [List.mem_filter, List.mem_map]
  constructor
  · rintro ⟨⟨m, hm, rfl⟩, ht⟩
    exact ⟨atp_lit (List.mem_range.1 hm), ht⟩
  · rintro ⟨hl, ht⟩
    exact ⟨⟨pl l, List.mem_range.2 (pl_lt hl), atp_pl hl.1⟩, ht⟩

theorem litsFault_of {V : Nat} {g : List Int} (h : ∀ l ∈ g, IsLit V l) : litsFault V g = 0 := by
  apply litsFault_all
  rw [List.all_eq_true]
  intro l hl
  obtain ⟨h1, h2, h3⟩ := h l hl
  unfold lit
  simp only [Bool.and_eq_true, Bool.not_eq_true', beq_eq_false_iff_ne, decide_eq_true_eq]
  exact ⟨⟨h1, h2⟩, h3⟩

/-- Literals that are ones: no error. -/
theorem PRes.ok {V : Nat} {C : List (List Int)} {g zs : List Int} {c : Bool} {x : Int} (h : PRes V C g zs c x) (hg : ∀ l ∈ g, IsLit V l) : x = 0 := by
  have hf := litsFault_of hg
  rcases h with ⟨h1, _⟩ | ⟨_, _, _, _, h⟩ | ⟨_, _, _, h, _⟩
  · exact absurd hf h1
  · exact h
  · exact h

/-- A conflict: nothing is told, and no assignment makes all true. -/
theorem PRes.conf {V : Nat} {C : List (List Int)} {g zs : List Int} {x : Int} (h : PRes V C g zs true x) : zs = [] ∧ Conf C (fun l => l ∈ g) := by
  rcases h with ⟨_, _, h, _⟩ | ⟨_, h2, h3, _, _⟩ | ⟨_, _, h, _⟩
  · cases h
  · exact ⟨h3, h2⟩
  · cases h

/-- No conflict: what is told is what follows. -/
theorem PRes.free {V : Nat} {C : List (List Int)} {g zs : List Int} {x : Int} (h : PRes V C g zs false x) (hg : ∀ l ∈ g, IsLit V l) : ¬ Conf C (fun l => l ∈ g) ∧ (∀ l, l ∈ zs ↔ Fol C (fun l => l ∈ g) l) ∧ (∀ l ∈ zs, IsLit V l) := by
  have hf := litsFault_of hg
  rcases h with ⟨h1, _⟩ | ⟨_, _, _, h, _⟩ | ⟨_, h2, _, _, T, h5, h6, rfl⟩
  · exact absurd hf h1
  · cases h
  · refine ⟨h2, fun l => ?_, fun l hl => (mem_tellOf.1 hl).1⟩
    rw [mem_tellOf]
    exact ⟨fun ⟨a, b⟩ => (h5 l a).1 b, fun h => ⟨h6 l h, (h5 l (h6 l h)).2 h⟩⟩

/-- Asked again with what follows: the same follows. -/
theorem PRes.again {V : Nat} {C : List (List Int)} {g zs zs' : List Int} {x x' : Int} {c' : Bool} (h : PRes V C g zs false x) (hg : ∀ l ∈ g, IsLit V l) (h' : PRes V C zs zs' c' x') : zs' = zs ∧ c' = false ∧ x' = 0 := by
  obtain ⟨hn, hm, hl⟩ := h.free hg
  have hx := h'.ok hl
  have hgr : ∀ l, l ∈ zs → Fol C (fun l => l ∈ g) l := fun l h => (hm l).1 h
  have hgr' : ∀ l, l ∈ g → Fol C (fun l => l ∈ zs) l := fun l h => .given ((hm l).2 (.given h))
  have hc' : c' = false := by
    cases c' with
    | false => rfl
    | true => exact absurd (h'.conf.2.through hgr) hn
  subst hc'
  refine ⟨?_, rfl, hx⟩
  have hf := litsFault_of hg
  have hf' := litsFault_of hl
  rcases h with ⟨h1, _⟩ | ⟨_, _, _, h, _⟩ | ⟨_, h2, _, _, T, h5, h6, h7⟩
  · exact absurd hf h1
  · cases h
  rcases h' with ⟨h1, _⟩ | ⟨_, _, _, h, _⟩ | ⟨_, k2, _, _, U, k5, k6, k7⟩
  · exact absurd hf' h1
  · cases h
  rw [k7, h7]
  apply tellOf_congr
  intro l hl
  rw [Bool.eq_iff_iff, k5 l hl, h5 l hl]
  exact ⟨fun h => h.through hgr, fun h => h.through hgr'⟩

/-- With more given, more follows. -/
theorem PRes.grows {V : Nat} {C : List (List Int)} {g g' zs zs' : List Int} {x x' : Int} (h : PRes V C g zs false x) (hg : ∀ l ∈ g, IsLit V l) (hg' : ∀ l ∈ g', IsLit V l) (hs : ∀ l ∈ g, l ∈ g') (h' : PRes V C g' zs' false x') : ∀ l ∈ zs, l ∈ zs' := by
  intro l hl
  exact ((h'.free hg').2.1 l).2 ((((h.free hg).2.1 l).1 hl).through (fun m hm => .given (hs m hm)))

/-- What follows holds in each assignment that makes all true. -/
theorem PRes.holds {V : Nat} {C : List (List Int)} {g zs : List Int} {c : Bool} {x : Int} (h : PRes V C g zs c x) (hg : ∀ l ∈ g, IsLit V l) (hC : ∀ c ∈ C, ∀ l ∈ c, IsLit V l) {b : Nat} (hm : makesB b C = true) (ht : g.all (tIn b) = true) : c = false ∧ ∀ l ∈ zs, tIn b l = true := by
  have hz : ∀ c ∈ C, ∀ l ∈ c, l ≠ 0 := fun c hc l hl => (hC c hc l hl).1
  have htg : ∀ l, l ∈ g → tIn b l = true := List.all_eq_true.1 ht
  cases c with
  | true => exact absurd h.conf.2 (Conf.never hm hz (fun l hl => (hg l hl).1) htg)
  | false => exact ⟨rfl, fun l hl => (((h.free hg).2.1 l).1 hl).sound hm hz htg⟩
end Go.Proofs.YtlodenfdcckemaaDoor
