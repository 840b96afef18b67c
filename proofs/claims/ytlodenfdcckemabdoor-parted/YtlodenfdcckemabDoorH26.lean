/-
  The walk of Parted.
-/
import Derived.Test.YtlodenfdcckemabDoorH22
import Derived.Test.YtlodenfdcckemabDoorH24
import Derived.Test.YtlodenfdcckemabDoorH25
namespace Go.Proofs.YtlodenfdcckemabDoor
open Go.RowKit

theorem shl_nine {V : Nat} (h : V ≤ 9) : wrap64 ((2 : Int) ^ V) = ((2 ^ V : Nat) : Int) ∧ (2 ^ V : Nat) ≤ 512 := by
  rcases (show V = 0 ∨ V = 1 ∨ V = 2 ∨ V = 3 ∨ V = 4 ∨ V = 5 ∨ V = 6 ∨ V = 7 ∨ V = 8 ∨ V = 9 by omega) with rfl | rfl | rfl | rfl | rfl | rfl | rfl | rfl | rfl | rfl <;> exact ⟨by unfold wrap64; omega, by decide⟩

set_option maxRecDepth 100000 in
set_option maxHeartbeats 8000000 in
theorem parted_any (vars : Int) (ao : Option Addr) (cap : Nat) (raw : List (List Int)) (kr br : Int) (w : World) (hc : ListsAt w w.heap.size ao raw) (hF : Fits raw) (hv0 : -9223372036854775808 ≤ vars) (hv1 : vars ≤ 9223372036854775807) (hk0 : -9223372036854775808 ≤ kr) (hk1 : kr ≤ 9223372036854775807) (hb0 : -9223372036854775808 ≤ br) (hb1 : br ≤ 9223372036854775807) (hT : Tab w) (hw0 : 0 < w.heap.size) :
    Calls Tryd.prog 4 #[.int .i64 vars, .slice ao raw.length cap, .int .i64 kr, .int .i64 br] w fun e w' => e = .returned (.bool true) ∧ Below w.heap.size w w' := by
  have hr := pickOf_range vars (show (0 : Int) < ((9 : Nat) : Int) by omega)
  obtain ⟨V, hV⟩ : ∃ V : Nat, rawV vars ((9 : Nat) : Int) = V := ⟨(rawV vars ((9 : Nat) : Int)).toNat, by unfold rawV; omega⟩
  have hV1 : 1 ≤ V := by unfold rawV at hV; omega
  have hV2 : V ≤ 9 := by unfold rawV at hV; omega
  clear hr
  obtain ⟨M, hM⟩ : ∃ M : Nat, min V 5 = M := ⟨_, rfl⟩
  have hmin : min (V : Int) 5 = (M : Int) := by omega
  have hM5 : M ≤ 5 := by omega
  have hMV : M ≤ V := by omega
  have hp := pickOf_range kr (show (0 : Int) < (M : Int) + 1 by omega)
  obtain ⟨K, hKe⟩ : ∃ K : Nat, pickOf kr ((M : Int) + 1) = K := ⟨(pickOf kr ((M : Int) + 1)).toNat, by omega⟩
  have hK5 : K ≤ 5 := by omega
  have hKV : K ≤ V := by omega
  have cpick := fun W => pick_any kr ((M : Int) + 1) W hk0 hk1 (by omega) (by omega)
  rw [hKe] at cpick
  clear hp hKe hM
  have HGood : Hid (Good V (rawC V raw)) := rawC_good hV1 (by omega) raw
  go_enter Tryd.func4, Tryd.ntmps4
  go_wp2_with fail
  refine (known_any w hT hw0).mono ?_
  rintro e w1 ⟨rfl, hb1'⟩
  have hs1 := hb1'.size
  have cf := kformula_any vars 9 ao cap raw w1 ((hc.below hb1' (Nat.le_refl _)).mono hs1) hF hv0 hv1 (by omega) (by omega)
  rw [hV] at cf
  clear hV
  go_wp2_with fail
  refine cf.mono ?_
  rintro e w2 ⟨v, fvs, rfl, hM2, hb2⟩
  obtain ⟨ve, vcap, rfl, hL2⟩ := hM2.lists
  clear cf
  generalize hcs : rawC V raw = cs at *
  clear hcs
  have hs2 := hb2.size
  have b3 := alloc_below w2 (.cells #[.int .i64 V, .slice ve cs.length vcap] 25)
  have B3 : Blk (w2.alloc (.cells #[.int .i64 V, .slice ve cs.length vcap] 25)) w2.heap.size 25 [.int .i64 V, .slice ve cs.length vcap] := blk_new w2 [.int .i64 V, .slice ve cs.length vcap] 25
  have s3 := alloc_size w2 (.cells #[.int .i64 V, .slice ve cs.length vcap] 25)
  have HV : Hid (wrap64 ((2 : Int) ^ V) = ((2 ^ V : Nat) : Int)) := (shl_nine hV2).1
  have hN512 := (shl_nine hV2).2
  obtain ⟨hshK, hNK⟩ := cub_shl hK5
  have hpm := pickOf_range br (show (0 : Int) < ((2 ^ V : Nat) : Int) by have := Nat.two_pow_pos V; omega)
  obtain ⟨m, hme⟩ : ∃ m : Nat, pickOf br ((2 ^ V : Nat) : Int) = m := ⟨(pickOf br ((2 ^ V : Nat) : Int)).toNat, by omega⟩
  have hm512 : m < 512 := by omega
  have cpick2 := fun W => pick_any br ((2 ^ V : Nat) : Int) W hb0 hb1 (by have := Nat.two_pow_pos V; omega) (by omega)
  rw [hme] at cpick2
  clear hpm hme
  go_wp2_with fail
  all_goals
    have eM : Calls Tryd.prog 8 #[.int .i64 kr, .int .i64 ((M : Int) + 1)] (w2.alloc (.cells #[.int .i64 V, .slice ve cs.length vcap] 25)) (fun e w' => e = .returned (.int .i64 K) ∧ w' = w2.alloc (.cells #[.int .i64 V, .slice ve cs.length vcap] 25)) := cpick _
    first
      | (have e6 : (6 : Int) = (M : Int) + 1 := by omega
         rw [e6]
         clear e6)
      | (have e6 : (V : Int) = (M : Int) := by omega
         rw [← e6] at eM
         clear e6)
    clear hmin
    refine eM.mono ?_
    rintro e w' ⟨rfl, rfl⟩
    generalize w2.alloc (.cells #[.int .i64 V, .slice ve cs.length vcap] 25) = w3 at *
    have k3 : Below w.heap.size w w3 := hb1'.trans ((hb2.mono hs1).trans (b3.mono (by omega)))
    have hL3 : ListsAt w3 w3.heap.size ve cs := (hL2.below b3 (Nat.le_refl _)).mono b3.size
    have hs3 := k3.size
    have n0 : w3.cell? ⟨w2.heap.size, 0, none⟩ = some (.int .i64 V) := B3.cell (i := 0) (by simp) undef
    have n1 : w3.cell? ⟨w2.heap.size, 1, none⟩ = some (.slice ve cs.length vcap) := B3.cell (i := 1) (by simp) undef
    have hpf : partFault V cs K = 0 := by unfold partFault; rw [if_neg (by rw [fault_good HGood.out]; simp), if_neg (by omega)]
    have hbl3 := B3.lt
    go_wp2_with fail
    refine (cubes_good V ve vcap cs K w3 hL3 HGood.out hpf hK5 hKV).mono ?_
    rintro e w4 ⟨v, vs, rfl, hM4, hb4⟩
    obtain ⟨la, lc, hv, hLa, -⟩ := hM4.lists
    rw [cubesOf_len] at hv
    subst hv
    have s4 := hb4.size
    have B4 := B3.below' hb4
    have hL4 : ListsAt w4 w4.heap.size ve cs := (hL3.below hb4 (Nat.le_refl _)).mono s4
    clear n0 n1
    have n0 : w4.cell? ⟨w2.heap.size, 0, none⟩ = some (.int .i64 V) := B4.cell (i := 0) (by simp) undef
    have n1 : w4.cell? ⟨w2.heap.size, 1, none⟩ = some (.slice ve cs.length vcap) := B4.cell (i := 1) (by simp) undef
    go_wp2_with fail
    refine (scores_good V ve vcap cs w4 hL4 HGood.out (fault_good HGood.out)).mono ?_
    rintro e w5 ⟨g, rfl, hg, hBS, hb5⟩
    have s5 := hb5.size
    have B5 := B4.below' hb5
    have HLa : Hid (ListsAt w5 w5.heap.size la (cubesOf V cs K)) := (hLa.below hb5 (Nat.le_refl _)).mono s5
    have HK5 : Hid (Below w.heap.size w w5) := (k3.trans (hb4.mono hs3)).trans (hb5.mono (Nat.le_trans hs3 s4))
    clear n0 n1
    have n0 : w5.cell? ⟨w2.heap.size, 0, none⟩ = some (.int .i64 V) := B5.cell (i := 0) (by simp) undef
    have hlen1 : (((2 ^ K : Nat) : Int) != wrap64 ((2 : Int) ^ K)) = false := by rw [hshK]; simp
    have hlen2 : (((2 * V : Nat) : Int) != 2 * (V : Int)) = false := by simp
    clear eM cpick hb1' hb2 b3 B3 hL2 hM2 hc hF hL3 hb4 hM4 hLa hL4 hb5 k3
    go_wp2_with fail
    rw [HV.out]
    refine (cpick2 w5).mono ?_
    rintro e w' ⟨rfl, hw'⟩
    obtain rfl := hw'.symm
    clear hw'
    have HOne : Hid ((cubesOf V cs K).countP (fun c => c.all (tIn m)) = 1) := one_part cs hKV m
    have HLits : Hid (∀ c ∈ cubesOf V cs K, c.length = K ∧ ∀ l ∈ c, IsLit V l) := fun c hc => cubes_lits hKV hc
    have HFst : Hid ((cubesOf V cs K).getD 0 [] = heavy V cs K) := cubes_first cs
    have HLl : Hid ((cubesOf V cs K).length = 2 ^ K) := cubesOf_len V cs K
    have HHv : Hid (∀ v ∈ heavy V cs K, 1 ≤ v ∧ v ≤ V) := fun v hv => heavy_mem hv
    have HHm : Hid (∀ v u : Nat, ((v : Int) + 1) ∈ heavy V cs K → ((u : Int) + 1) ∉ heavy V cs K → u < V → weight cs u ≤ weight cs v) := fun v u h1 h2 h3 => heavy_most cs h1 h2 h3
    have HHl : Hid ((heavy V cs K).length = K) := heavy_len cs hKV
    have HWl : Hid (∀ i, weight cs i ≤ 8388608000) := HGood.out.weight_le
    have HPl : Hid (∀ l, partsOf cs l ≤ 4194304000) := HGood.out.parts_le
    have hN0 := Nat.two_pow_pos K
    generalize cubesOf V cs K = L at *
    generalize heavy V cs K = H at *
    generalize hNe : (2 ^ K : Nat) = N at *
    clear hNe hshK hlen1 hlen2 HV cpick2 HGood hpf
    have HB5 : Hid (Blk w5 w2.heap.size 25 [.int .i64 V, .slice ve cs.length vcap]) := B5
    have HBS : Hid (Blk w5 g 43 (litCells V cs cs.length [] 0)) := hBS
    have hlb5 := B5.lt
    have hlg5 := hBS.lt
    clear B4 B5 hBS n0
    go_wp2
    go_loopw [17, 18] (fun xf xi wr => ∃ i : Nat, i ≤ N ∧ xi = .int .i64 i ∧ xf = .int .i64 (((L.take i).countP (fun c => c.all (tIn m)) : Nat) : Int) ∧ Hid (Below w5.heap.size w5 wr)) (fun _ x _ => N - (intOf x).toNat)
    case atStart => exact ⟨0, Nat.zero_le _, rfl, by simp, Below.refl _ _⟩
    case round =>
      obtain ⟨i, hi, rfl, rfl, HB⟩ := hrel
      have hsB := HB.out.size
      by_cases hlt : i < N
      · have hiL : i < L.length := by rw [HLl.out]; exact hlt
        obtain ⟨lb, lo, hla, hlb, hcell⟩ := HLa.out (by intro h; rw [h] at hiL; simp at hiL)
        subst hla
        obtain ⟨A, Cc, hck0, hin0⟩ := hcell i hiL
        have hmem : L.getD i [] ∈ L := by rw [getD_lt _ _ _ hiL]; exact List.getElem_mem hiL
        have HC := HLits.out _ hmem
        have HCt : Hid _ := count_take (fun c => c.all (tIn m)) hiL
        have hfew := @count_few L i (fun c => c.all (tIn m))
        generalize L.getD i [] = c at *
        obtain ⟨hcK, hclit⟩ := HC
        have HCK : Hid (c.length = K) := hcK
        have HCl : Hid (∀ l ∈ c, IsLit V l) := hclit
        have HIn : Hid (IntsAt w5 w5.heap.size A c) := hin0
        have heq : ((c.length : Int) == (K : Int)) = true := by rw [hcK]; simp
        have hc5 : c.length ≤ 5 := by omega
        have hck : wr.cell? ⟨lb, lo + i, none⟩ = some (.slice A c.length Cc) := (HB.out.cell (p := ⟨lb, lo + i, none⟩) hlb).trans hck0
        have hltI : (i : Int) < (N : Int) := by omega
        clear hcell hmem hin0 hcK hclit hck0
        generalize hfe : (L.take i).countP (fun c => c.all (tIn m)) = f at *
        clear hfe
        obtain ⟨wo, hwo⟩ : ∃ wo, wo = wr := ⟨wr, rfl⟩
        subst hwo
        go_wp2
        go_loopw [19, 20] (fun xa xj wq => ∃ j : Nat, j ≤ c.length ∧ xj = .int .i64 j ∧ xa = .bool ((c.take j).all (tIn m)) ∧ Hid (Below wo.heap.size wo wq)) (fun _ x _ => c.length - (intOf x).toNat)
        case atStart => exact ⟨0, Nat.zero_le _, rfl, by simp, Below.refl _ _⟩
        case round =>
          obtain ⟨j, hj, rfl, rfl, HBq⟩ := hrel
          have hsq := HBq.out.size
          have kq : Below w5.heap.size w5 wr := HB.out.trans (HBq.out.mono hsB)
          have hck' : wr.cell? ⟨lb, lo + i, none⟩ = some (.slice A c.length Cc) := (HBq.out.cell (p := ⟨lb, lo + i, none⟩) (Nat.lt_of_lt_of_le hlb hsB)).trans hck
          have n0 : wr.cell? ⟨w2.heap.size, 0, none⟩ = some (.int .i64 V) := (HB5.out.below' kq).cell (i := 0) (by simp) undef
          by_cases hlj : j < c.length
          · obtain ⟨b', o', hA, hb', hcell'⟩ := HIn.out (by intro h; rw [h] at hlj; simp at hlj)
            subst hA
            have hcx := (kq.cell (p := ⟨b', o' + j, none⟩) hb').trans (hcell' j hlj)
            have hl := HCl.out (c.getD j 0) (by rw [getD_lt _ _ _ hlj]; exact List.getElem_mem hlj)
            have HA : Hid _ := all_take (tIn m) hlj
            generalize c.getD j 0 = l at hcx hl HA
            generalize hae : (c.take j).all (tIn m) = a at *
            clear hae hcell'
            obtain ⟨n, hn⟩ : ∃ n, l.natAbs = n + 1 := ⟨l.natAbs - 1, by unfold IsLit at hl; omega⟩
            have hnV : n < V := by unfold IsLit at hl; omega
            have ct := fun W => trueIn_any m l W (by omega) hl.1 (by have := hl.2.1; omega) (by have := hl.2.2; omega)
            have HTt : Hid ((c.take (j + 1)).all (tIn m) = (a && tIn m l)) := HA.out
            generalize hte : tIn m l = t at *
            clear hte HA
            have hljI : (j : Int) < (c.length : Int) := by omega
            have HBd : Hid (Below wo.heap.size wo wr.drew) := HBq.out.drew
            rcases (show l = (n : Int) + 1 ∨ l = -((n : Int) + 1) by omega) with rfl | rfl
            · clear hl hn
              cases a with
              | true =>
                go_wp2
                go_region_held3 (fun q => q.cell? ⟨lb, lo + i, none⟩ = some (.slice (some ⟨b', o', none⟩) c.length Cc) ∧ q.cell? ⟨b', o' + j, none⟩ = some (.int .i64 ((n : Int) + 1))) (first | exact ⟨hck', hcx⟩ | go_keep) (fail)
                all_goals go_wp2_with (go_at_call 12; refine (ct _).mono ?_; rintro e w' ⟨rfl, hw'⟩; obtain rfl := hw'.symm)
                exact ⟨⟨j + 1, by omega, by go_num, by rw [HTt.out]; rfl, HBd⟩, by simp [intOf]; omega⟩
              | false =>
                go_wp2
                go_region_held3 (fun q => q.cell? ⟨lb, lo + i, none⟩ = some (.slice (some ⟨b', o', none⟩) c.length Cc) ∧ q.cell? ⟨b', o' + j, none⟩ = some (.int .i64 ((n : Int) + 1))) (first | exact ⟨hck', hcx⟩ | go_keep) (fail)
                all_goals go_wp2_with (go_at_call 12; refine (ct _).mono ?_; rintro e w' ⟨rfl, hw'⟩; obtain rfl := hw'.symm)
                exact ⟨⟨j + 1, by omega, by go_num, by rw [HTt.out]; rfl, HBd⟩, by simp [intOf]; omega⟩
            · clear hl hn
              cases a with
              | true =>
                go_wp2
                go_region_held3 (fun q => q.cell? ⟨lb, lo + i, none⟩ = some (.slice (some ⟨b', o', none⟩) c.length Cc) ∧ q.cell? ⟨b', o' + j, none⟩ = some (.int .i64 (-((n : Int) + 1)))) (first | exact ⟨hck', hcx⟩ | go_keep) (fail)
                all_goals go_wp2_with (go_at_call 12; refine (ct _).mono ?_; rintro e w' ⟨rfl, hw'⟩; obtain rfl := hw'.symm)
                exact ⟨⟨j + 1, by omega, by go_num, by rw [HTt.out]; rfl, HBd⟩, by simp [intOf]; omega⟩
              | false =>
                go_wp2
                go_region_held3 (fun q => q.cell? ⟨lb, lo + i, none⟩ = some (.slice (some ⟨b', o', none⟩) c.length Cc) ∧ q.cell? ⟨b', o' + j, none⟩ = some (.int .i64 (-((n : Int) + 1)))) (first | exact ⟨hck', hcx⟩ | go_keep) (fail)
                all_goals go_wp2_with (go_at_call 12; refine (ct _).mono ?_; rintro e w' ⟨rfl, hw'⟩; obtain rfl := hw'.symm)
                exact ⟨⟨j + 1, by omega, by go_num, by rw [HTt.out]; rfl, HBd⟩, by simp [intOf]; omega⟩
          · obtain rfl : j = c.length := by omega
            rw [List.take_length]
            have HBo : Hid (Below w5.heap.size w5 wr) := kq
            cases hb : c.all (tIn m) with
            | true =>
              have HC2 : Hid ((L.take (i + 1)).countP (fun c => c.all (tIn m)) = f + 1) := by unfold Hid; rw [HCt.out]; simp only [hb, if_true]
              clear hb HCt
              go_wp2
              exact ⟨⟨i + 1, by omega, by go_num, by rw [HC2.out]; go_num, HBo⟩, by simp [intOf]; omega⟩
            | false =>
              have HC2 : Hid ((L.take (i + 1)).countP (fun c => c.all (tIn m)) = f) := by unfold Hid; rw [HCt.out]; simp [hb]
              clear hb HCt
              go_wp2
              exact ⟨⟨i + 1, by omega, by go_num, by rw [HC2.out], HBo⟩, by simp [intOf]; omega⟩
      · obtain rfl : i = N := by omega
        have hone : (L.take i).countP (fun c => c.all (tIn m)) = 1 := by rw [List.take_of_length_le (by rw [HLl.out]; exact Nat.le_refl _)]; exact HOne.out
        rw [hone]
        have hiL : 0 < L.length := by rw [HLl.out]; exact hN0
        obtain ⟨lb, lo, hla, hlb, hcell⟩ := HLa.out (by intro h; rw [h] at hiL; simp at hiL)
        subst hla
        obtain ⟨A, Cc, hck0, hin0⟩ := hcell 0 hiL
        rw [HFst.out] at hck0 hin0
        have HIn : Hid (IntsAt w5 w5.heap.size A H) := hin0
        have HCK : Hid (w5.cell? ⟨lb, lo, none⟩ = some (.slice A H.length Cc)) := hck0
        have hH5 : H.length ≤ 5 := by have := HHl.out; omega
        have hi0 : (0 : Int) < (i : Int) := by omega
        clear hcell hin0 hck0 hone hiL
        obtain ⟨wo, hwo⟩ : ∃ wo, wo = wr := ⟨wr, rfl⟩
        subst hwo
        go_wp2
        go_loopw [23] (fun xj wq => ∃ j : Nat, j ≤ H.length ∧ xj = .int .i64 j ∧ Hid (Below w5.heap.size w5 wq)) (fun x _ => H.length - (intOf x).toNat)
        case atStart => exact ⟨0, Nat.zero_le _, rfl, HB⟩
        case round =>
          obtain ⟨j, hj, rfl, HBq⟩ := hrel
          have hck' : wr.cell? ⟨lb, lo, none⟩ = some (.slice A H.length Cc) := (HBq.out.cell (p := ⟨lb, lo, none⟩) hlb).trans HCK.out
          by_cases hlj : j < H.length
          · obtain ⟨b', o', hA, hb', hcell'⟩ := HIn.out (by intro h; rw [h] at hlj; simp at hlj)
            have HA : Hid (A = some ⟨b', o', none⟩) := hA
            subst hA
            have hcx := (HBq.out.cell (p := ⟨b', o' + j, none⟩) hb').trans (hcell' j hlj)
            have hvm : H.getD j 0 ∈ H := by rw [getD_lt _ _ _ hlj]; exact List.getElem_mem hlj
            have hvb := HHv.out _ hvm
            generalize H.getD j 0 = v at hcx hvm hvb
            obtain ⟨n, rfl⟩ : ∃ n : Nat, v = (n : Int) + 1 := ⟨(v - 1).toNat, by omega⟩
            have HVm : Hid (((n : Int) + 1) ∈ H) := hvm
            have hnV : n < V := by omega
            have hljI : (j : Int) < (H.length : Int) := by omega
            clear hcell' hvm hvb
            go_wp2
            go_region_held3 (fun q => q.cell? ⟨lb, lo, none⟩ = some (.slice (some ⟨b', o', none⟩) H.length Cc) ∧ q.cell? ⟨b', o' + j, none⟩ = some (.int .i64 ((n : Int) + 1))) (first | exact ⟨hck', hcx⟩ | go_keep) (fail)
            have hmx : (if (n : Int) + 1 < IntKind.i64.wrap (-((n : Int) + 1)) then IntKind.i64.wrap (-((n : Int) + 1)) else (n : Int) + 1) = (n : Int) + 1 := by rw [wrapI (by omega) (by omega), if_neg (by omega)]
            rw [hmx]
            clear hmx
            have HBd : Hid (Below w5.heap.size w5 wr.drew) := HBq.out.drew
            generalize wr.drew = wd at *
            clear hck' hcx
            go_wp2
            go_loopw [25] (fun xw wq => ∃ u : Nat, u ≤ V ∧ xw = .int .i64 ((u : Int) + 1) ∧ Hid (Below w5.heap.size w5 wq)) (fun x _ => V + 1 - (intOf x).toNat)
            case atStart => exact ⟨0, Nat.zero_le _, rfl, HBd⟩
            case round =>
              clear HBd
              obtain ⟨u, hu, rfl, HBu⟩ := hrel
              have n0 : wr.cell? ⟨w2.heap.size, 0, none⟩ = some (.int .i64 V) := (HB5.out.below' HBu.out).cell (i := 0) (by simp) undef
              have hsu := HBu.out.size
              by_cases huV : u < V
              · have hck' : wr.cell? ⟨lb, lo, none⟩ = some (.slice (some ⟨b', o', none⟩) H.length Cc) := (HBu.out.cell (p := ⟨lb, lo, none⟩) hlb).trans HCK.out
                have hHin : IntsAt wr wr.heap.size (some ⟨b', o', none⟩) H := by
                  have := HIn.out.below HBu.out (Nat.le_refl _)
                  exact this.mono hsu
                have c3 := kcontains_any (some ⟨b', o', none⟩) Cc H ((u : Int) + 1) wr hHin (by omega)
                clear hHin
                have huI : (u : Int) + 1 ≤ (V : Int) := by omega
                by_cases hin : ((u : Int) + 1) ∈ H
                · rw [decide_eq_true hin] at c3
                  clear hin
                  go_wp2_with (go_at_call 13; refine c3.mono ?_; rintro e w' ⟨rfl, hw'⟩; obtain rfl := hw'.symm)
                  go_quiet (fail)
                  have HBn : Hid (Below w5.heap.size w5 (wr.drewN nq)) := below_drewN HBu.out nq
                  go_wp2
                  go_roundw
                  case rel => exact ⟨u + 1, by omega, by go_num, HBn⟩
                  case measure => simp [intOf]; omega
                · rw [decide_eq_false hin] at c3
                  have hwle := HHm.out n u HVm.out hin huV
                  clear hin
                  have hw1 := HWl.out u
                  have hw2 := HWl.out n
                  obtain ⟨o, ho, hog⟩ := order_le (show weight cs u < 9007199254740992 by omega) (show weight cs n < 9007199254740992 by omega) hwle
                  have BSu := HBS.out.below' HBu.out
                  have p0 : wr.cell? ⟨g, 2 * u, none⟩ = some _ := BSu.cell (i := 2 * u) (by simp [litCells]; omega) undef
                  have p1 : wr.cell? ⟨g, 2 * u + 1, none⟩ = some _ := BSu.cell (i := 2 * u + 1) (by simp [litCells]; omega) undef
                  have q0 : wr.cell? ⟨g, 2 * n, none⟩ = some _ := BSu.cell (i := 2 * n) (by simp [litCells]; omega) undef
                  have q1 : wr.cell? ⟨g, 2 * n + 1, none⟩ = some _ := BSu.cell (i := 2 * n + 1) (by simp [litCells]; omega) undef
                  rw [litCells_get _ _ _ (by omega)] at p0 p1 q0 q1
                  have hadd : ∀ k w, (binOp .add 43 (.float .f64 (Fl.W (partsOf cs (litAt (2 * k))))) (.float .f64 (Fl.W (partsOf cs (litAt (2 * k + 1)))))).run Tryd.prog w = .ok (.float .f64 (Fl.W (weight cs k))) w :=
                    fun k w => run_float_arith w .add 43 .f64 _ _ _ (Fl.add_W _ _ (by have := HPl.out (litAt (2 * k)); omega) (by have := HPl.out (litAt (2 * k + 1)); omega))
                  have hau := hadd u
                  have han := hadd n
                  clear hadd BSu hw1 hw2 hwle
                  generalize partsOf cs (litAt (2 * u)) = a0 at *
                  generalize partsOf cs (litAt (2 * u + 1)) = a1 at *
                  generalize partsOf cs (litAt (2 * n)) = a2 at *
                  generalize partsOf cs (litAt (2 * n + 1)) = a3 at *
                  generalize weight cs u = wu at *
                  generalize weight cs n = wn at *
                  have e0 : IntKind.i64.wrap (2 * ((u : Int) + 1)) = 2 * ((u : Int) + 1) := wrapI (by omega) (by omega)
                  have e1 : IntKind.i64.wrap (2 * ((u : Int) + 1) - 2) = 2 * (u : Int) := by rw [wrapI (by omega) (by omega)]; omega
                  have e2 : IntKind.i64.wrap (2 * ((u : Int) + 1) - 1) = 2 * (u : Int) + 1 := by rw [wrapI (by omega) (by omega)]; omega
                  have e3 : IntKind.i64.wrap (2 * ((n : Int) + 1)) = 2 * ((n : Int) + 1) := wrapI (by omega) (by omega)
                  have e4 : IntKind.i64.wrap (2 * ((n : Int) + 1) - 2) = 2 * (n : Int) := by rw [wrapI (by omega) (by omega)]; omega
                  have e5 : IntKind.i64.wrap (2 * ((n : Int) + 1) - 1) = 2 * (n : Int) + 1 := by rw [wrapI (by omega) (by omega)]; omega
                  have r1 : (0 : Int) ≤ 2 * (u : Int) := by omega
                  have r2 : 2 * (u : Int) < 2 * (V : Int) := by omega
                  have r3 : (0 : Int) ≤ 2 * (u : Int) + 1 := by omega
                  have r4 : 2 * (u : Int) + 1 < 2 * (V : Int) := by omega
                  have r5 : (0 : Int) ≤ 2 * (n : Int) := by omega
                  have r6 : 2 * (n : Int) < 2 * (V : Int) := by omega
                  have r7 : (0 : Int) ≤ 2 * (n : Int) + 1 := by omega
                  have r8 : 2 * (n : Int) + 1 < 2 * (V : Int) := by omega
                  have t1 : (2 * (u : Int)).toNat = 2 * u := by omega
                  have t2 : (2 * (u : Int) + 1).toNat = 2 * u + 1 := by omega
                  have t3 : (2 * (n : Int)).toNat = 2 * n := by omega
                  have t4 : (2 * (n : Int) + 1).toNat = 2 * n + 1 := by omega
                  go_wp2_with (go_at_call 13; refine c3.mono ?_; rintro e w' ⟨rfl, hw'⟩; obtain rfl := hw'.symm)
                  go_quiet (fail)
                  have HBn : Hid (Below w5.heap.size w5 (wr.drewN nq)) := below_drewN HBu.out nq
                  have hgt : (o == Ordering.gt) = false := by cases o <;> simp_all
                  cases o with
                  | gt => exact absurd rfl hog
                  | lt =>
                    go_wp2
                    go_roundw
                    case rel => exact ⟨u + 1, by omega, by go_num, HBn⟩
                    case measure => simp [intOf]; omega
                  | eq =>
                    go_wp2
                    go_roundw
                    case rel => exact ⟨u + 1, by omega, by go_num, HBn⟩
                    case measure => simp [intOf]; omega
              · obtain rfl : u = V := by omega
                have huI : ¬ ((u : Int) + 1 ≤ (u : Int)) := by omega
                go_wp2
                exact ⟨⟨j + 1, by omega, by omega⟩, by simp [intOf]; omega⟩
          · obtain rfl : j = H.length := by omega
            have HBo : Hid (Below w.heap.size w wr) := HK5.out.trans (HBq.out.mono HK5.out.size)
            go_wp2
            go_ret
            exact ⟨rfl, HBo.out⟩
end Go.Proofs.YtlodenfdcckemabDoor
