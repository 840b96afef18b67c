/-
  The search's loop: what lies in memory, and that other hands leave it.
-/
import Derived.Test.YtlodenfdcckemaaDoorH27
import Derived.Test.YtlodenfdcckemaaDoorH23
import Derived.Test.YtlodenfdcckemaaDoorH12
namespace Go.Proofs.YtlodenfdcckemaaDoor
open Go.RowKit Go.Shelf

namespace TChg
variable {Ts : TypeId → Prop} {w w' : World}
theorem row3 (h : TChg Ts w w') {v : Value} {P : List Pk} (hR : Row3 w v P) (ht : ¬ Ts 140) : Row3 w' v P := by
  rcases hR with h0 | ⟨g, cap, rfl, h1, h2, r, hr, hl⟩
  · exact Or.inl h0
  · exact Or.inr ⟨g, cap, rfl, h1, h2, r, h.blk hr ht, hl⟩
end TChg

/-- The types of the search's own blocks. -/
def SeaT (t : TypeId) : Prop := t = 115 ∨ t = 140 ∨ t = 102 ∨ t = 71

theorem Row3.blkOf {w : World} {v : Value} {P : List Pk} (h : Row3 w v P) {k : Nat} (e : v.ownBlock = some k) : ∃ L, Blk w k 140 L := by
  rcases h with ⟨rfl, _⟩ | ⟨g, cap, rfl, _, _, rest, hr, _⟩
  · simp [Value.ownBlock] at e
  · simp [Value.ownBlock] at e; subst e; exact ⟨_, hr⟩

/-- A step of the picks alone. -/
theorem SeaAt.tchg {w w' : World} {X : Nat} {a0 a1 v : Value} {T L : Nat} {P : List Pk} (h : SeaAt w X a0 a1 v T L P) (hc : Chg (fun b => b = X ∨ v.ownBlock = some b) w w') : TChg (fun t => t = 115 ∨ t = 140) w w' :=
  ⟨_, hc, fun b hb _ => by
    rcases hb with rfl | hb
    · exact ⟨_, _, h.head, Or.inl rfl⟩
    · obtain ⟨L', hL⟩ := h.row.blkOf hb
      exact ⟨_, _, hL, Or.inr rfl⟩⟩

/-- A step of the kept clauses alone. -/
theorem Cls.tchg {w w' : World} {H : Nat} {v : Value} {K : List Nat} (h : Cls w H v K) (hc : Chg (fun b => b = H ∨ v.ownBlock = some b) w w') : TChg (fun t => t = 102 ∨ t = 71) w w' :=
  ⟨_, hc, fun b hb _ => by
    rcases hb with rfl | hb
    · exact ⟨_, _, h.head, Or.inl rfl⟩
    · obtain ⟨L', hL⟩ := h.own.blkOf hb
      exact ⟨_, _, hL, Or.inr rfl⟩⟩

/-- What is done with each lemma. -/
structure Found (gf : Nat) (cf : Array Value) (B0 : Nat) (J : List Nat → World → Prop) : Prop where
  enter : ∀ args w, (callFunc gf args).run Tryd.prog w = .ok (.enter gf args) w
  call : ∀ F c w, J F w → c < 18446744073709551616 → B0 ≤ w.heap.size → F.length ≤ 3486784401 → Calls Tryd.prog gf (#[sv c] ++ cf) w fun e w' => e = .returned (.tuple #[]) ∧ J (F ++ [c]) w' ∧ Below B0 w w' ∧ TChg (fun t => ¬ SeaT t) w w'
  keep : ∀ F w w', J F w → TChg SeaT w w' → Below B0 w w' → J F w'

/-- The search, between two turns. -/
structure RunI (ch : List Nat) (B0 : Nat) (J : List Nat → World → Prop) (w : World) (X H : Nat) (a1 : Value) (a : Cf) (wr : World) (v vK : Value) : Prop where
  sea : SeaAt wr X (.pointer (some ⟨H, 0, none⟩)) a1 v (truthOf a.P) (lv a.P) a.P
  cls : Cls wr H vK a.K
  own : Own wr 0 71 a1 (svs ch)
  dis : ∀ b, vK.ownBlock = some b → a1.ownBlock ≠ some b
  fnd : J a.F wr
  lowX : B0 ≤ X
  lowH : B0 ≤ H
  lowv : ∀ b, v.ownBlock = some b → B0 ≤ b
  lowK : ∀ b, vK.ownBlock = some b → B0 ≤ b
  old : Below B0 w wr
  base : B0 ≤ wr.heap.size

/-- A step of the picks: all else stays. -/
theorem RunI.picks {ch : List Nat} {B0 : Nat} {J : List Nat → World → Prop} {w : World} {X H : Nat} {a1 : Value} {a b : Cf} {wr w' : World} {v v' vK : Value} {gf : Nat} {cf : Array Value} (hF : Found gf cf B0 J) (h : RunI ch B0 J w X H a1 a wr v vK) (hs : SeaAt w' X (.pointer (some ⟨H, 0, none⟩)) a1 v' (truthOf b.P) (lv b.P) b.P) (hc : Chg (fun g => g = X ∨ v.ownBlock = some g) wr w') (ho : ∀ g, v'.ownBlock = some g → v.ownBlock = some g ∨ wr.heap.size ≤ g)
    (eK : b.K = a.K) (eF : b.F = a.F) : RunI ch B0 J w X H a1 b w' v' vK := by
  have ht := h.sea.tchg hc
  have hb : Below B0 wr w' := hc.below h.base (fun k e => by
    rcases e with e | e
    · rw [e]; exact h.lowX
    · exact h.lowv k e)
  refine ⟨hs, ⟨ht.blk h.cls.head (by decide), by rw [eK]; exact ht.own h.cls.own (by decide)⟩, ht.own h.own (by decide), h.dis, by rw [eF]; exact hF.keep _ _ _ h.fnd (ht.mono fun t e => by rcases e with e | e; exact Or.inl e; exact Or.inr (Or.inl e)) hb, h.lowX, h.lowH, fun g e => ?_, h.lowK, h.old.trans hb, Nat.le_trans h.base hc.size⟩
  rcases ho g e with h1 | h1
  · exact h.lowv g h1
  · exact Nat.le_trans h.base h1

/-- A step of found: the search stays. -/
theorem RunI.found {ch : List Nat} {B0 : Nat} {J : List Nat → World → Prop} {w : World} {X H : Nat} {a1 : Value} {a : Cf} {F' : List Nat} {wr w' : World} {v vK : Value} (h : RunI ch B0 J w X H a1 a wr v vK) (hb : Below B0 wr w') (ht : TChg (fun t => ¬ SeaT t) wr w') (hJ : J F' w') : RunI ch B0 J w X H a1 ⟨a.K, a.P, F'⟩ w' v vK := by
  have n1 : ¬ ¬ SeaT 115 := fun h => h (Or.inl rfl)
  have n2 : ¬ ¬ SeaT 140 := fun h => h (Or.inr (Or.inl rfl))
  have n3 : ¬ ¬ SeaT 102 := fun h => h (Or.inr (Or.inr (Or.inl rfl)))
  have n4 : ¬ ¬ SeaT 71 := fun h => h (Or.inr (Or.inr (Or.inr rfl)))
  exact ⟨⟨ht.blk h.sea.head n1, ht.row3 h.sea.row n2⟩, ⟨ht.blk h.cls.head n3, ht.own h.cls.own n4⟩, ht.own h.own n4, h.dis, hJ, h.lowX, h.lowH, h.lowv, h.lowK, h.old.trans hb, Nat.le_trans h.base ht.size⟩

/-- A step of the kept clauses. -/
theorem RunI.kept {ch : List Nat} {B0 : Nat} {J : List Nat → World → Prop} {w : World} {X H : Nat} {a1 : Value} {a b : Cf} {wr w' : World} {v vK vK' : Value} {gf : Nat} {cf : Array Value} (hF : Found gf cf B0 J) (h : RunI ch B0 J w X H a1 a wr v vK) (hs : Cls w' H vK' b.K) (hc : Chg (fun g => g = H ∨ vK.ownBlock = some g) wr w') (ho : ∀ g, vK'.ownBlock = some g → vK.ownBlock = some g ∨ wr.heap.size ≤ g)
    (eP : b.P = a.P) (eF : b.F = a.F) : RunI ch B0 J w X H a1 b w' v vK' := by
  have ht := h.cls.tchg hc
  have hb : Below B0 wr w' := hc.below h.base (fun k e => by
    rcases e with e | e
    · rw [e]; exact h.lowH
    · exact h.lowK k e)
  refine ⟨⟨by rw [eP]; exact ht.blk h.sea.head (by decide), by rw [eP]; exact ht.row3 h.sea.row (by decide)⟩, hs, h.own.chg hc (fun k e e' => ?_), fun g e => ?_, by rw [eF]; exact hF.keep _ _ _ h.fnd (ht.mono fun t e => by rcases e with e | e; exact Or.inr (Or.inr (Or.inl e)); exact Or.inr (Or.inr (Or.inr e))) hb, h.lowX, h.lowH, h.lowv, fun g e => ?_, h.old.trans hb, Nat.le_trans h.base hc.size⟩
  · rcases e' with e' | e'
    · exact own_blk h.own h.cls.head (by decide) (by rw [e, e'])
    · exact h.dis k e' e
  · rcases ho g e with h1 | h1
    · exact h.dis g h1
    · intro e'; have := (h.own.lt e').2; omega
  · rcases ho g e with h1 | h1
    · exact h.lowK g h1
    · exact Nat.le_trans h.base h1

/-- The least number of some. -/
noncomputable def least (p : Nat → Prop) : Nat := open Classical in if h : ∃ n, p n ∧ ∀ m, p m → n ≤ m then Classical.choose h else 0

theorem least_spec {p : Nat → Prop} {n : Nat} (h : p n) : p (least p) ∧ ∀ m, p m → least p ≤ m := by
  have hex : ∃ n, p n ∧ ∀ m, p m → n ≤ m := by
    induction n using Nat.strongRecOn with
    | _ n ih =>
      by_cases hx : ∃ m, m < n ∧ p m
      · obtain ⟨m, hm, hp⟩ := hx
        exact ih m hm hp
      · exact ⟨n, h, fun m hm => Nat.le_of_not_lt fun hl => hx ⟨m, hl, hm⟩⟩
  unfold least
  rw [dif_pos hex]
  exact Classical.choose_spec hex

theorem SInv.more {V G : Nat} (hV : V ≤ 20) {cs : List (List Int)} {a : Cf} (h : SInv V G cs a) {P : List Pk} {o : Option Nat} (hg : Goes a.K [] true a.P (P, o)) : SInv V G cs ⟨a.K, P, a.F⟩ := by
  obtain ⟨h1, h2, -⟩ := h.goes hV hg
  exact ⟨h.cover, h1, h2, h.lems, h.cnt, h.len, h.giv.goes hg, h.gs⟩



theorem SInv.few {V G : Nat} (hV : V ≤ 20) {cs : List (List Int)} {a : Cf} (h : SInv V G cs a) (hc : cs.length ≤ 200) : a.F.length ≤ 3486784401 ∧ a.K.length ≤ 3486784601 := by
  have h1 := h.cnt
  have h2 := cov_le V a.K
  have h3 := h.len
  have h4 : 3 ^ V ≤ 3 ^ 20 := Nat.pow_le_pow_right (by decide) hV
  have h5 : (3 : Nat) ^ 20 = 3486784401 := by decide
  omega

/-- The kept clauses of a formula. -/
def keptOf (cs : List (List Int)) : List Nat := cs.foldl (fun K c => addTo K (maskOf c)) []

end Go.Proofs.YtlodenfdcckemaaDoor
