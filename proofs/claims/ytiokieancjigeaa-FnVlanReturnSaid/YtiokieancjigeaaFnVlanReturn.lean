/-
  FnVlanReturn: where a frame comes to, one can come back from. No condition.
-/
import Derived.Test.YtiokieancjigeaaDrawVlan
import Derived.Test.YtiokieancjigeaaImp10e
import Derived.Test.YtiokieancjigeaaShut
namespace Go.Proofs.Ytiokieancjigeaa
open Go.RowKit Go.ChangeShapes Go.WideShapes Go.ChangeAt

def anyB (a t : Int) (l : List (Int × Int)) : Bool := l.any fun z => z.1 == a && z.2 == t
theorem anyB_step {a t p q : Int} {S : List (Int × Int)} {m : Nat} (h : S[m]? = some (p, q)) : anyB a t (S.take (m + 1)) = (anyB a t (S.take m) || ((p == a) && (q == t))) := by
  unfold anyB
  rw [List.take_add_one, h, List.any_append]
  simp
theorem anyB_mem {a t : Int} {S : List (Int × Int)} (h : (a, t) ∈ S) : anyB a t S = true := by
  unfold anyB
  rw [List.any_eq_true]
  exact ⟨_, h, by simp⟩
set_option maxRecDepth 100000 in
set_option maxHeartbeats 8000000 in
theorem walk_FnVlanReturn {A : Option Addr} {n c : Nat} {zs : List Int} {w : World} (h : Has w A n (ints .u8 zs)) (hwf : ∀ z ∈ zs, (Lit.int .u8 z).wf = true) (hc : n ≤ c ∧ c ≤ maxLen) :
    Calls Try.prog 7 #[.slice A n c] w fun e w' => e = .returned (.bool true) ∧ Below w.heap.size w w' := by
  have hu : U8s zs := fun z hz => u8_of_wf (hwf z hz)
  clear hwf
  by_cases hn : n ≤ 1048576
  rotate_left
  · go_enter Try.func7, Try.ntmps7
    go_wp2
    go_ret
    exact ⟨rfl, Below.refl _ _⟩
  go_enter Try.func7, Try.ntmps7
  go_wp2_with (fail)
  refine (drawFloodVlan_any h hu hc).mono ?_
  rintro e w1 hX
  unfold PortsNN at hX
  obtain ⟨A1, n1, c1, ps, a, t, rfl, hP, hld, hn1, B1⟩ := hX
  have hl := hld.lenP
  have HL := Lib.hid hP.1
  clear hld
  obtain ⟨R, hR⟩ : ∃ R, floodI ps a t = R := ⟨_, rfl⟩
  have HR := Lib.hid hR
  clear hR
  go_wp2_with (fail)
  refine (implFloodVlan_r (c := c1) hP (by omega) hl HR.out).mono ?_
  rintro e w2 ⟨A2, n2, c2, rfl, O2, B2⟩
  have C2 := bel_trans B1 B2
  have P2 := hP.bel B2
  have hr2 := O2.len
  go_wp2_with (fail)
  refine (specFloodVlan_r (c := c1) P2 (by omega) hl HR.out).mono ?_
  rintro e w3 ⟨A3, n3, c3, rfl, O3, B3⟩
  obtain rfl : n3 = n2 := by have := O3.len; omega
  have C3 := bel_trans C2 B3
  have P3 := P2.bel B3
  have H2 := (O2.bel B3).has
  have HR2 := Lib.hid hr2
  have nB : ((n3 : Int) != (n3 : Int)) = false := by simp
  have nC : (n3 != n3) = false := by simp
  have hn3 : n3 ≤ 16 := by rw [← hr2, ← HR.out]; have := flood_len ps a t; omega
  clear O2 O3 hr2
  go_wp2
  go_loopw [35] (fun i wr => ∃ k : Nat, k ≤ n3 ∧ i = .int .i64 (k : Int) ∧ Below w3.heap.size w3 wr) (fun i _ => n3 - (intOf i).toNat)
  case atStart => exact ⟨0, Nat.zero_le _, rfl, Below.refl _ _⟩
  case round =>
    obtain ⟨k, hk, rfl, BW⟩ := hrel
    have hge := BW.size
    by_cases hlt : k < n3
    · have hltB : decide ((k : Int) < (n3 : Int)) = true := decide_eq_true (by omega)
      have kW : IntKind.i64.wrap ((k : Int) + 1) = ((k + 1 : Nat) : Int) := by rw [IntWalk.i64_in _ (by omega)]; omega
      obtain ⟨b2, o2, x, y, rfl, hbl2, hx, d0, d1⟩ := (H2.bel BW).at_ hlt
      have hmem : (x, y) ∈ floodI ps a t := by rw [HR.out]; exact List.mem_of_getElem? hx
      have HBACK := Lib.hid (returns hmem)
      obtain ⟨V, hV⟩ : ∃ V, wr.alloc (.cells #[.int .i64 x, .int .i64 y] 36) = V := ⟨_, rfl⟩
      have BV : Below wr.heap.size wr V := by rw [← hV]; exact below_allocP wr _
      have hVn : V.heap[wr.heap.size]? = some (.cells #[.int .i64 x, .int .i64 y] 36 (0, 0)) := by rw [← hV]; exact heap_alloc_new wr _
      have BWV := BW.trans (BV.mono hge)
      have v0 := (cell_of_row V wr.heap.size 0 _ _ (0, 0) hVn).trans rfl
      have v1 := (cell_of_row V wr.heap.size 1 _ _ (0, 0) hVn).trans rfl
      obtain ⟨S, hS⟩ : ∃ S, floodI ps x y = S := ⟨_, rfl⟩
      have HS := Lib.hid hS
      clear hx hmem hS
      go_wp2_with (fail)
      refine (implFloodVlan_r (c := c1) (P3.bel BWV) (by omega) hl HS.out).mono ?_
      rintro e w5 ⟨A5, n5, c5, rfl, O5, B5⟩
      have BW5 := BWV.trans (B5.mono BWV.size)
      have HN5 := Lib.hid O5.len
      have hn5 : n5 ≤ 16 := by have h1 := HN5.out; rw [← HS.out] at h1; have := flood_len ps x y; omega
      have H5 := O5.has
      clear O5 v0 v1 hVn
      go_wp2
      go_loopw [9, 46] (fun bk i wr => ∃ (m : Nat) (b : Bool), m ≤ n5 ∧ i = .int .i64 (m : Int) ∧ bk = .bool b ∧ Hid (b = anyB a t (S.take m)) ∧ Below w5.heap.size w5 wr) (fun _ i _ => n5 - (intOf i).toNat)
      case atStart => exact ⟨0, false, Nat.zero_le _, rfl, rfl, Lib.hid rfl, Below.refl _ _⟩
      case round =>
        obtain ⟨m, b, hm, rfl, rfl, HB, BX⟩ := hrel
        have hgx := BX.size
        by_cases hlm : m < n5
        · have hlmB : decide ((m : Int) < (n5 : Int)) = true := decide_eq_true (by omega)
          have mW : IntKind.i64.wrap ((m : Int) + 1) = ((m + 1 : Nat) : Int) := by rw [IntWalk.i64_in _ (by omega)]; omega
          obtain ⟨b6, o6, p, q, rfl, hbl6, hp, e0, e1⟩ := (H5.bel BX).at_ hlm
          obtain ⟨U, hU⟩ : ∃ U, wr.alloc (.cells #[.int .i64 p, .int .i64 q] 36) = U := ⟨_, rfl⟩
          have BU : Below wr.heap.size wr U := by rw [← hU]; exact below_allocP wr _
          have hUn : U.heap[wr.heap.size]? = some (.cells #[.int .i64 p, .int .i64 q] 36 (0, 0)) := by rw [← hU]; exact heap_alloc_new wr _
          have u0 := (cell_of_row U wr.heap.size 0 _ _ (0, 0) hUn).trans rfl
          have u1 := (cell_of_row U wr.heap.size 1 _ _ (0, 0) hUn).trans rfl
          have BXU := BX.trans (BU.mono hgx)
          have HT := Lib.hid (anyB_step (a := a) (t := t) hp)
          clear hp hUn
          cases b with
          | true =>
            have HB2 : Hid (true = anyB a t (S.take (m + 1))) := by
              have : true = anyB a t (S.take (m + 1)) := by rw [HT.out, ← HB.out]; rfl
              exact this
            go_wp2
            go_roundw
            case rel => exact ⟨m + 1, true, by omega, by go_num, rfl, HB2, BXU⟩
            case measure => simp [intOf]; omega
          | false =>
            obtain ⟨b1, hb1⟩ : ∃ b1, (p == a) = b1 := ⟨_, rfl⟩
            obtain ⟨b2', hb2⟩ : ∃ b2, (q == t) = b2 := ⟨_, rfl⟩
            have HB2 : Hid ((b1 && b2') = anyB a t (S.take (m + 1))) := by
              have : (b1 && b2') = anyB a t (S.take (m + 1)) := by rw [HT.out, ← HB.out, hb1, hb2]; rfl
              exact this
            cases b1 with
            | true =>
              have HB3 : Hid (b2' = anyB a t (S.take (m + 1))) := HB2
              clear HB2
              go_wp2
              go_roundw
              case rel => exact ⟨m + 1, b2', by omega, by go_num, rfl, HB3, BXU⟩
              case measure => simp [intOf]; omega
            | false =>
              have HB3 : Hid (false = anyB a t (S.take (m + 1))) := HB2
              clear HB2
              go_wp2
              go_roundw
              case rel => exact ⟨m + 1, false, by omega, by go_num, rfl, HB3, BXU⟩
              case measure => simp [intOf]; omega
        · have hlmB : decide ((m : Int) < (n5 : Int)) = false := decide_eq_false (by omega)
          obtain rfl : m = n5 := by omega
          have hb : b = true := by
            have h1 := HB.out
            rw [List.take_of_length_le (by rw [HN5.out]; exact Nat.le_refl _)] at h1
            rw [h1]
            exact anyB_mem (by rw [← HS.out]; exact HBACK.out)
          subst hb
          have BF := BW5.trans (BX.mono BW5.size)
          go_wp2
          go_roundw
          case rel => exact ⟨k + 1, by omega, by go_num, BF⟩
          case measure => simp [intOf]; omega
    · have hltB : decide ((k : Int) < (n3 : Int)) = false := decide_eq_false (by omega)
      go_wp2
      go_ret
      exact ⟨rfl, bel_trans C3 BW⟩
set_option maxRecDepth 100000 in
theorem lifted_FnVlanReturn (os : Os) (started : os.Started) (H : Type) (enc : TypeId × Value → H) :
    ReturnsInHanded {} Try.checked os 7 .any (Rows.fnVlanReturnSpec.pre6 enc Try.prog Try.f7 Rows.fnVlanReturnRow.domain false) (Rows.fnVlanReturnSpec.post enc Try.prog Try.f7 false true false false) := by
  refine returnsInHanded_of_change (C := Try.checked) (by kernel_rfl) started (by kernel_rfl) Try.func7
    (ChangeSpec.witness6 (enc := enc) (C := Try.checked) false ⟨#[], #[.slice none 0 0], []⟩ 8 (by kernel_rfl) (by kernel_rfl) (by kernel_rfl) (by kernel_rfl)) ?_
  intro W base args ds gs before hval0 hW hcnd _
  have hval : ∀ (j : Nat) t v, Try.f7.params[j]? = some t → args[j]? = some v → Value.okWide Try.prog W .any base t v := hval0
  have hW' := hW
  obtain ⟨p, q, hA0, hV, rfl, hfz, hnd⟩ := hW
  have hA : DataW.TrodAll enc Try.prog W 0 (fun _ => true) true Try.f7.params.toList args.toList ds p := hA0
  rw [Try.params7] at hA hval
  obtain ⟨v0, vs0, d0, ds0, p0, q0, hargs, rfl, rfl, h0, r0⟩ := trodAll_cons hA
  obtain ⟨rfl, rfl, rfl⟩ := trodAll_nil r0
  obtain rfl : args = #[v0] := by cases args; simp_all
  obtain ⟨rfl, rfl⟩ := trodVars_none hV
  obtain ⟨a0, len0, cap0, rfl⟩ := okWide_slice Try.underlying22 (hval 0 22 v0 rfl rfl)
  have k0 := h0
  have lt0 : ∀ x ∈ p0, x.block < W.heap.size := by obtain ⟨m, hm⟩ := k0; exact DataW.trod_lt m _ _ _ hm
  obtain ⟨z0, H0, U0, M0⟩ := has_of_trod (k := .u8) Try.underlying22 Try.underlying5 (by kernel_rfl) h0
  clear hA0 hval0
  refine (walk_FnVlanReturn H0 U0 M0).mono fun e W' ⟨he, bel⟩ => ?_
  subst he
  exact ⟨_, rfl, _, _, _, [], _, [], hW', trodAll_mk1 (shut_bool Try.underlying4 _), (trodAll_cons_mk (Below.trod (by kernel_rfl) (by kernel_rfl) (of_decide_eq_true (by kernel_rfl)) k0 bel lt0) trodAll_mk0), rfl, bel.frame _, fun h => by cases h⟩

theorem fnVlanReturn_holds : Rows.FnVlanReturnSaid :=
  OpenClaim.holds_of_wide 7 Try.f7 rfl rfl rfl rfl rfl rfl rfl ⟨rfl, rfl, rfl, rfl, rfl⟩ rfl rfl rfl rfl rfl (by kernel_rfl) Try.func7
    (by unfold joinedFacts; with_reducible refine Bool.and_eq_true_iff.2 ⟨?_, (by as_aux_lemma => kernel_rfl)⟩; with_reducible refine Bool.and_eq_true_iff.2 ⟨?_, (by as_aux_lemma => kernel_rfl)⟩; with_reducible refine Bool.and_eq_true_iff.2 ⟨?_, (by as_aux_lemma => kernel_rfl)⟩; with_reducible refine Bool.and_eq_true_iff.2 ⟨?_, (by as_aux_lemma => kernel_rfl)⟩; with_reducible refine Bool.and_eq_true_iff.2 ⟨?_, (by with_unfolding_all exact shutMake)⟩; with_reducible refine Bool.and_eq_true_iff.2 ⟨?_, (by with_unfolding_all exact shutLifts)⟩; with_reducible refine Bool.and_eq_true_iff.2 ⟨?_, shutEnter⟩; (repeat (with_reducible refine Bool.and_eq_true_iff.2 ⟨?_, (by as_aux_lemma => kernel_rfl)⟩)); as_aux_lemma => kernel_rfl)
    (of_decide_eq_true (by kernel_rfl)) (by unfold Func.isWrapper; first | (rw [if_pos (by decide +kernel)]; kernel_rfl) | (rw [if_neg (by decide +kernel)]; exact ⟨rfl, rfl⟩))
    (fun os started H enc _ => lifted_FnVlanReturn os started H enc)
end Go.Proofs.Ytiokieancjigeaa
