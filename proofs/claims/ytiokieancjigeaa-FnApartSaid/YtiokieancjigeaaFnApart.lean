/-
  FnApart: from ports that are apart no frame comes. No condition.
-/
import Derived.Test.YtiokieancjigeaaDrawVlan
import Derived.Test.YtiokieancjigeaaImp10e
import Derived.Test.YtiokieancjigeaaImp10g
import Derived.Test.YtiokieancjigeaaWnInts
import Derived.Test.YtiokieancjigeaaVlanN
import Derived.Test.YtiokieancjigeaaShut
namespace Go.Proofs.Ytiokieancjigeaa
open Go.RowKit Go.ChangeShapes Go.WideShapes Go.ChangeAt

set_option maxRecDepth 100000 in
set_option maxHeartbeats 8000000 in
theorem walk_FnApart {A : Option Addr} {n c : Nat} {zs : List Int} {w : World} (h : Has w A n (ints .u8 zs)) (hwf : ∀ z ∈ zs, (Lit.int .u8 z).wf = true) (hc : n ≤ c ∧ c ≤ maxLen) :
    Calls Try.prog 8 #[.slice A n c] w fun e w' => e = .returned (.bool true) ∧ Below w.heap.size w w' := by
  have hu : U8s zs := fun z hz => u8_of_wf (hwf z hz)
  clear hwf
  by_cases hn : n ≤ 1048576
  rotate_left
  · go_enter Try.func8, Try.ntmps8
    go_wp2
    go_ret
    exact ⟨rfl, Below.refl _ _⟩
  go_enter Try.func8, Try.ntmps8
  go_wp2_with (fail)
  refine (drawApartFrom_any h hu hc).mono ?_
  rintro e w1 hX
  unfold PortsN at hX
  obtain ⟨A1, n1, c1, ps, a, rfl, hP, hld, hn1, B1⟩ := hX
  have hl := hld.lenP
  have HL := Lib.hid hP.1
  clear hld
  obtain ⟨R, hR⟩ : ∃ R, apartI ps a = R := ⟨_, rfl⟩
  have HR := Lib.hid hR
  clear hR
  go_wp2_with (fail)
  refine (implApartFrom_r (c := c1) hP (by omega) hl HR.out).mono ?_
  rintro e w2 ⟨A2, n2, c2, rfl, O2, B2⟩
  have C2 := bel_trans B1 B2
  have P2 := hP.bel B2
  have hr2 := O2.has.len
  go_wp2_with (fail)
  refine (specApartFrom_r (c := c1) P2 (by omega) hl HR.out).mono ?_
  rintro e w3 ⟨A3, n3, c3, rfl, O3, B3⟩
  have C3 := bel_trans C2 B3
  have P3 := P2.bel B3
  have H2 := (O2.bel B3).has
  have hn2 : n2 ≤ 16 := by rw [← hr2, ← HR.out]; have := apartI_len ps a; omega
  go_wp2_with (fail)
  refine (wnInts_same (c := c2) (c' := c3) H2 O3.has (by omega)).mono ?_
  rintro e w4 ⟨rfl, B4⟩
  have C4 := bel_trans C3 B4
  have P4 := P3.bel B4
  have H4 := H2.bel B4
  clear O2 O3 H2 hr2
  go_wp2
  go_loopw [30] (fun i wr => ∃ k : Nat, k ≤ n2 ∧ i = .int .i64 (k : Int) ∧ Below w4.heap.size w4 wr) (fun i _ => n2 - (intOf i).toNat)
  case atStart => exact ⟨0, Nat.zero_le _, rfl, Below.refl _ _⟩
  case round =>
    obtain ⟨k, hk, rfl, BW⟩ := hrel
    have hge := BW.size
    by_cases hlt : k < n2
    · have hltB : decide ((k : Int) < (n2 : Int)) = true := decide_eq_true (by omega)
      have kW : IntKind.i64.wrap ((k : Int) + 1) = ((k + 1 : Nat) : Int) := by rw [IntWalk.i64_in _ (by omega)]; omega
      obtain ⟨b2, o2, p, rfl, hbl2, hx, hc⟩ := (H4.bel BW).at_ hlt
      have hmem : p ∈ apartI ps a := by rw [HR.out]; exact List.mem_of_getElem? hx
      have HFAR := Lib.hid (fun tag : Int => apart_far (tag := tag) hmem)
      have HBK := Lib.hid (apart_back hmem)
      clear hx hmem
      obtain ⟨w5, hw5⟩ : ∃ w5, w5 = wr := ⟨_, rfl⟩
      have BW5 : Below w4.heap.size w4 w5 := by rw [hw5]; exact BW
      have hW5 := Lib.hid hw5
      go_wp2
      go_loopw [34] (fun i wr => ∃ g : Nat, g ≤ 10 ∧ i = .int .i64 (g : Int) ∧ Below w4.heap.size w4 wr) (fun i _ => 10 - (intOf i).toNat)
      case atStart => exact ⟨0, Nat.zero_le _, rfl, BW⟩
      case round =>
        obtain ⟨g, hg, rfl, BG⟩ := hrel
        by_cases hlg : g < 10
        · have hlgB : decide ((g : Int) < 10) = true := decide_eq_true (by omega)
          have gW : IntKind.i64.wrap ((g : Int) + 1) = ((g + 1 : Nat) : Int) := by rw [IntWalk.i64_in _ (by omega)]; omega
          obtain ⟨S, hS⟩ : ∃ S, floodI ps p (g : Int) = S := ⟨_, rfl⟩
          have HS := Lib.hid hS
          have HF := Lib.hid (HFAR.out (g : Int))
          clear hS
          go_wp2_with (fail)
          refine (implFloodVlan_r (c := c1) (P4.bel BG) (by omega) hl HS.out).mono ?_
          rintro e w6 ⟨A6, n6, c6, rfl, O6, B6⟩
          have BG6 := BG.trans (B6.mono BG.size)
          have hn6 : n6 ≤ 16 := by rw [← O6.len, ← HS.out]; have := flood_len ps p (g : Int); omega
          have H6 := O6.has
          clear O6
          go_wp2
          go_loopw [42] (fun i wr => ∃ m : Nat, m ≤ n6 ∧ i = .int .i64 (m : Int) ∧ Below w6.heap.size w6 wr) (fun i _ => n6 - (intOf i).toNat)
          case atStart => exact ⟨0, Nat.zero_le _, rfl, Below.refl _ _⟩
          case round =>
            obtain ⟨m, hm, rfl, BX⟩ := hrel
            by_cases hlm : m < n6
            · have hlmB : decide ((m : Int) < (n6 : Int)) = true := decide_eq_true (by omega)
              have mW : IntKind.i64.wrap ((m : Int) + 1) = ((m + 1 : Nat) : Int) := by rw [IntWalk.i64_in _ (by omega)]; omega
              obtain ⟨b6, o6, x, y, rfl, hbl6, hxy, e0, e1⟩ := (H6.bel BX).at_ hlm
              have hne : x ≠ a := HF.out (x, y) (by rw [HS.out]; exact List.mem_of_getElem? hxy)
              have xB : (x == a) = false := by simp [hne]
              obtain ⟨U, hU⟩ : ∃ U, wr.alloc (.cells #[.int .i64 x, .int .i64 y] 36) = U := ⟨_, rfl⟩
              have BU : Below wr.heap.size wr U := by rw [← hU]; exact below_allocP wr _
              have hUn : U.heap[wr.heap.size]? = some (.cells #[.int .i64 x, .int .i64 y] 36 (0, 0)) := by rw [← hU]; exact heap_alloc_new wr _
              have u0 := (cell_of_row U wr.heap.size 0 _ _ (0, 0) hUn).trans rfl
              have u1 := (cell_of_row U wr.heap.size 1 _ _ (0, 0) hUn).trans rfl
              have BXU := BX.trans (BU.mono BX.size)
              clear hxy hne hUn
              go_wp2
              go_roundw
              case rel => exact ⟨m + 1, by omega, by go_num, BXU⟩
              case measure => simp [intOf]; omega
            · have hlmB : decide ((m : Int) < (n6 : Int)) = false := decide_eq_false (by omega)
              have BF := BG6.trans (BX.mono BG6.size)
              go_wp2
              go_roundw
              case rel => exact ⟨g + 1, by omega, by go_num, BF⟩
              case measure => simp [intOf]; omega
        · have hlgB : decide ((g : Int) < 10) = false := decide_eq_false (by omega)
          obtain ⟨S, hS⟩ : ∃ S, apartI ps p = S := ⟨_, rfl⟩
          have HS := Lib.hid hS
          have HIN := Lib.hid (show decide (a ∈ S) = true from decide_eq_true (by rw [← hS]; exact HBK.out))
          clear hS
          go_wp2_with (fail)
          refine (implApartFrom_r (c := c1) (P4.bel BG) (by omega) hl HS.out).mono ?_
          rintro e w7 ⟨A7, n7, c7, rfl, O7, B7⟩
          have BG7 := BG.trans (B7.mono BG.size)
          have hn7 : n7 ≤ 16 := by rw [← O7.has.len, ← HS.out]; have := apartI_len ps p; omega
          go_wp2_with (fail)
          refine (wnHas_b (c := c7) O7.has (by omega) HIN.out).mono ?_
          rintro e w' ⟨rfl, rfl⟩
          go_wp2
          go_roundw
          case rel => exact ⟨k + 1, by omega, by go_num, BG7⟩
          case measure => simp [intOf]; omega
    · have hltB : decide ((k : Int) < (n2 : Int)) = false := decide_eq_false (by omega)
      go_wp2
      go_ret
      exact ⟨rfl, bel_trans C4 BW⟩
set_option maxRecDepth 100000 in
theorem lifted_FnApart (os : Os) (started : os.Started) (H : Type) (enc : TypeId × Value → H) :
    ReturnsInHanded {} Try.checked os 8 .any (Rows.fnApartSpec.pre6 enc Try.prog Try.f8 Rows.fnApartRow.domain false) (Rows.fnApartSpec.post enc Try.prog Try.f8 false true false false) := by
  refine returnsInHanded_of_change (C := Try.checked) (by kernel_rfl) started (by kernel_rfl) Try.func8
    (ChangeSpec.witness6 (enc := enc) (C := Try.checked) false ⟨#[], #[.slice none 0 0], []⟩ 8 (by kernel_rfl) (by kernel_rfl) (by kernel_rfl) (by kernel_rfl)) ?_
  intro W base args ds gs before hval0 hW hcnd _
  have hval : ∀ (j : Nat) t v, Try.f8.params[j]? = some t → args[j]? = some v → Value.okWide Try.prog W .any base t v := hval0
  have hW' := hW
  obtain ⟨p, q, hA0, hV, rfl, hfz, hnd⟩ := hW
  have hA : DataW.TrodAll enc Try.prog W 0 (fun _ => true) true Try.f8.params.toList args.toList ds p := hA0
  rw [Try.params8] at hA hval
  obtain ⟨v0, vs0, d0, ds0, p0, q0, hargs, rfl, rfl, h0, r0⟩ := trodAll_cons hA
  obtain ⟨rfl, rfl, rfl⟩ := trodAll_nil r0
  obtain rfl : args = #[v0] := by cases args; simp_all
  obtain ⟨rfl, rfl⟩ := trodVars_none hV
  obtain ⟨a0, len0, cap0, rfl⟩ := okWide_slice Try.underlying22 (hval 0 22 v0 rfl rfl)
  have k0 := h0
  have lt0 : ∀ x ∈ p0, x.block < W.heap.size := by obtain ⟨m, hm⟩ := k0; exact DataW.trod_lt m _ _ _ hm
  obtain ⟨z0, H0, U0, M0⟩ := has_of_trod (k := .u8) Try.underlying22 Try.underlying5 (by kernel_rfl) h0
  clear hA0 hval0
  refine (walk_FnApart H0 U0 M0).mono fun e W' ⟨he, bel⟩ => ?_
  subst he
  exact ⟨_, rfl, _, _, _, [], _, [], hW', trodAll_mk1 (shut_bool Try.underlying4 _), (trodAll_cons_mk (Below.trod (by kernel_rfl) (by kernel_rfl) (of_decide_eq_true (by kernel_rfl)) k0 bel lt0) trodAll_mk0), rfl, bel.frame _, fun h => by cases h⟩

theorem fnApart_holds : Rows.FnApartSaid :=
  OpenClaim.holds_of_wide 8 Try.f8 rfl rfl rfl rfl rfl rfl rfl ⟨rfl, rfl, rfl, rfl, rfl⟩ rfl rfl rfl rfl rfl (by kernel_rfl) Try.func8
    (by unfold joinedFacts; with_reducible refine Bool.and_eq_true_iff.2 ⟨?_, (by as_aux_lemma => kernel_rfl)⟩; with_reducible refine Bool.and_eq_true_iff.2 ⟨?_, (by as_aux_lemma => kernel_rfl)⟩; with_reducible refine Bool.and_eq_true_iff.2 ⟨?_, (by as_aux_lemma => kernel_rfl)⟩; with_reducible refine Bool.and_eq_true_iff.2 ⟨?_, (by as_aux_lemma => kernel_rfl)⟩; with_reducible refine Bool.and_eq_true_iff.2 ⟨?_, (by with_unfolding_all exact shutMake)⟩; with_reducible refine Bool.and_eq_true_iff.2 ⟨?_, (by with_unfolding_all exact shutLifts)⟩; with_reducible refine Bool.and_eq_true_iff.2 ⟨?_, shutEnter⟩; (repeat (with_reducible refine Bool.and_eq_true_iff.2 ⟨?_, (by as_aux_lemma => kernel_rfl)⟩)); as_aux_lemma => kernel_rfl)
    (of_decide_eq_true (by kernel_rfl)) (by unfold Func.isWrapper; first | (rw [if_pos (by decide +kernel)]; kernel_rfl) | (rw [if_neg (by decide +kernel)]; exact ⟨rfl, rfl⟩))
    (fun os started H enc _ => lifted_FnApart os started H enc)
end Go.Proofs.Ytiokieancjigeaa
