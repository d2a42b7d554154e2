/-
  FnArrivalsNear: for every slice of bytes the law returns true and writes nothing that was there. No condition.
-/
import Derived.Test.YtafplpechpoliaaImp4
import Derived.Test.YtafplpechpoliaaDrawFates
import Derived.Test.YtafplpechpoliaaWnInts
namespace Go.Proofs.Ytafplpechpoliaa
open Go.RowKit Go.ChangeShapes Go.WideShapes Go.ChangeAt

theorem arr_near {fs : List Int} {v x y : Int} {i j : Nat} (hij : i < j) (hx : (arrI fs v)[i]? = some x) (hy : (arrI fs v)[j]? = some y) : fOk fs ∧ (y < x → x = y + 1 ∧ fateN fs y.toNat = 3 ∧ fateN fs x.toNat ≠ 3) := by
  unfold arrI at hx hy
  split at hx
  · rename_i hg
    rw [if_pos hg] at hy
    obtain ⟨h1, h2⟩ := List.getElem?_eq_some_iff.1 hx
    obtain ⟨h3, h4⟩ := List.getElem?_eq_some_iff.1 hy
    have hp := List.pairwise_iff_getElem.1 (pair_arrTo fs v.toNat (2 * v.toNat + 3)) i j h1 h3 hij
    have hp2 : early fs x y := by rw [← h2, ← h4]; exact hp
    exact ⟨hg.1, near hp2⟩
  · simp at hx

set_option maxHeartbeats 8000000 in
set_option maxRecDepth 100000 in
theorem walk_FnArrivalsNear {A0 : Option Addr} {n0 c0 : Nat} {zs0 : List Int} {w : World} (h0 : Has w A0 n0 (ints .u8 zs0)) (hwf0 : ∀ z ∈ zs0, (Lit.int .u8 z).wf = true) (hc0 : n0 ≤ c0 ∧ c0 ≤ maxLen) :
    Calls Try.prog 4 #[.slice A0 n0 c0] w fun e w' => e = .returned (.bool true) ∧ Below w.heap.size w w' := by
  have hu0 : U8s zs0 := fun z hz => u8_of_wf (hwf0 z hz)
  clear hwf0
  by_cases hn0 : n0 ≤ 1048576
  · go_enter Try.func4, Try.ntmps4
    go_wp2_with (fail)
    refine (drawArrivalsOf_any h0 hu0 hc0).mono ?_
    rintro e w1 h
    unfold FatN at h
    obtain ⟨A1, n1, c1, fs, v, rfl, O1, hf, hn1, v0, v1, B1⟩ := h
    have HC := Lib.hid O1.cap
    go_wp2_with (fail)
    refine (implArrivalsOf_any O1.has hf.i64s (by omega) HC.out (by omega)).mono ?_
    rintro e w2 ⟨A2, n2, c2, rfl, O2, B2⟩
    have C2 := bel_trans B1 B2
    have P2 := O1.bel B2
    have hn2 : n2 ≤ 120 := by have q1 := O2.has.len; have q2 := arrI_120 fs v; omega
    have HC2 := Lib.hid O2.cap
    go_wp2_with (fail)
    refine (specArrivalsOf_any P2.has hf.i64s (by omega) HC.out (by omega)).mono ?_
    rintro e w3 ⟨A3, n3, c3, rfl, O3, B3⟩
    have C3 := bel_trans C2 B3
    have P3 := P2.bel B3
    have Q3 := O2.bel B3
    go_wp2_with (fail)
    refine (wnInts_same Q3.has O3.has (by omega)).mono ?_
    rintro e w4 ⟨rfl, B4⟩
    have C4 := bel_trans C3 B4
    have P4 := P3.bel B4
    have Q4 := Q3.bel B4
    have hNR : ∀ (i j : Nat) (x y : Int), i < j → (arrI fs v)[i]? = some x → (arrI fs v)[j]? = some y → fOk fs ∧ (y < x → x = y + 1 ∧ fateN fs y.toNat = 3 ∧ fateN fs x.toNat ≠ 3) := fun i j x y h1 h2 h3 => arr_near h1 h2 h3
    have HNR := Lib.hid hNR
    have hBD : ∀ x ∈ arrI fs v, 0 ≤ x ∧ x ≤ 60 := fun x hx => by have := arrI_b hx; omega
    have HBD := Lib.hid hBD
    have HF : ∀ (x : Int) (W : World), fOk fs → 0 ≤ x → x ≤ 60 → Below w4.heap.size w4 W → Calls Try.prog 22 #[.slice A1 n1 c1, .int .i64 x] W fun e w' => e = .returned (.int .i64 (fateN fs x.toNat)) ∧ Below W.heap.size W w' := fun x W hg hx0 hx1 hW => by
      have := implFateOf_any (i := x) (P4.bel hW).has hf.i64s (by omega) HC.out (by omega)
      rwa [show fateI fs x = fateN fs x.toNat by unfold fateI; rw [if_pos ⟨hg, hx0⟩]] at this
    have HFH := Lib.hid HF
    clear hNR hBD HF
    generalize arrI fs v = es at *
    go_wp2
    obtain ⟨wo, rfl⟩ : ∃ wo : World, wo = w4 := ⟨_, rfl⟩
    go_loopw [29] (fun i wr => ∃ k : Nat, k ≤ n2 ∧ i = .int .i64 ((k : Nat) : Int) ∧ Below wo.heap.size wo wr) (fun i _ => n2 - (intOf i).toNat)
    case atStart => exact ⟨0, Nat.zero_le _, rfl, Below.refl _ _⟩
    case round =>
      obtain ⟨k, hk, rfl, B6⟩ := hrel
      by_cases hlt : k < n2
      · have hltB : decide ((k : Int) < (n2 : Int)) = true := by simp; omega
        obtain ⟨b, o, x, rfl, hbl, hx, hc⟩ := (Q4.bel B6).has.at_ hlt
        obtain ⟨x0, x1⟩ := HBD.out x (List.mem_of_getElem? hx)
        have HX := Lib.hid hx
        clear hx
        obtain ⟨B, cB, HT, HB⟩ := run_tail (P := Try.prog) (t := 23) (e := 3) (c := c2) (l := k + 1) (z := (k : Int) + 1) Try.underlying23 (fun _ => by kernel_rfl) (Q4.bel B6).has HC2.out (by omega) (by omega)
        rw [show (ints .i64 es).drop (k + 1) = ints .i64 (es.drop (k + 1)) by simp [ints, List.map_drop]] at HB
        generalize hn3 : n2 - (k + 1) = m at *
        go_wp2
        obtain ⟨wi, rfl⟩ : ∃ wi : World, wi = wr := ⟨_, rfl⟩
        go_loopw [39] (fun i wr => ∃ j : Nat, j ≤ m ∧ i = .int .i64 ((j : Nat) : Int) ∧ Below wi.heap.size wi wr) (fun i _ => m - (intOf i).toNat)
        case atStart => exact ⟨0, Nat.zero_le _, rfl, Below.refl _ _⟩
        case round =>
          obtain ⟨j, hj, rfl, B7⟩ := hrel
          by_cases hlj : j < m
          · have hljB : decide ((j : Int) < (m : Int)) = true := by simp; omega
            obtain ⟨b', o', y, rfl, hbl', hy, hc'⟩ := (HB.bel B7).at_ hlj
            have hy2 : es[k + 1 + j]? = some y := by rw [List.getElem?_drop] at hy; exact hy
            obtain ⟨y0, y1⟩ := HBD.out y (List.mem_of_getElem? hy2)
            obtain ⟨hg, hnear⟩ := HNR.out k (k + 1 + j) x y (by omega) HX.out hy2
            clear hy hy2
            by_cases hyx : y < x
            · have hyxB : decide (y < x) = true := by simp [hyx]
              obtain ⟨hn1, hn2', hn3'⟩ := hnear hyx
              have e1 : (x != y + 1) = false := by simp [hn1]
              have CF := Lib.hid (HFH.out y wr hg y0 y1 (bel_trans B6 B7))
              have CG := fun W => HFH.out x W hg x0 x1
              have CGH := Lib.hid CG
              rw [hn2'] at CF
              generalize fateN fs x.toNat = f at *
              have e3 : (f == 3) = false := by simp [hn3']
              clear hn1 hn2' hn3' hnear CG hg
              go_wp2_with (fail)
              refine CF.out.mono ?_
              rintro e w8 ⟨rfl, B8⟩
              go_wp2_with (fail)
              refine (CGH.out w8 (bel_trans (bel_trans B6 B7) B8)).mono ?_
              rintro e w9 ⟨rfl, B9⟩
              go_wp2
              go_roundw
              case rel => exact ⟨j + 1, by omega, by go_num, bel_trans (bel_trans B7 B8) B9⟩
              case measure => simp [intOf]; omega
            · have hyxB : decide (y < x) = false := by simp [hyx]
              clear hnear hg
              go_wp2
              go_roundw
              case rel => exact ⟨j + 1, by omega, by go_num, B7⟩
              case measure => simp [intOf]; omega
          · have hljB : decide ((j : Int) < (m : Int)) = false := by simp; omega
            go_wp2
            go_roundw
            case rel => exact ⟨k + 1, by omega, by go_num, bel_trans B6 B7⟩
            case measure => simp [intOf]; omega
      · have hltB : decide ((k : Int) < (n2 : Int)) = false := by simp; omega
        go_wp2
        go_ret
        exact ⟨rfl, bel_trans C4 B6⟩
  · go_enter Try.func4, Try.ntmps4
    go_wp2
    go_ret
    exact ⟨rfl, Below.refl _ _⟩
set_option maxRecDepth 100000 in
theorem lifted_FnArrivalsNear (os : Os) (started : os.Started) (H : Type) (enc : TypeId × Value → H) :
    ReturnsInHanded {} Try.checked os 4 .any (Rows.fnArrivalsNearSpec.pre6 enc Try.prog Try.f4 Rows.fnArrivalsNearRow.domain false) (Rows.fnArrivalsNearSpec.post enc Try.prog Try.f4 false true false false) := by
  refine returnsInHanded_of_change (C := Try.checked) (by kernel_rfl) started (by kernel_rfl) Try.func4
    (ChangeSpec.witness6 (enc := enc) (C := Try.checked) false ⟨#[], #[.slice none 0 0], []⟩ 8 (by kernel_rfl) (by kernel_rfl) (by kernel_rfl) (by kernel_rfl)) ?_
  intro W base args ds gs before hval0 hW hcnd _
  have hval : ∀ (j : Nat) t v, Try.f4.params[j]? = some t → args[j]? = some v → Value.okWide Try.prog W .any base t v := hval0
  have hW' := hW
  obtain ⟨p, q, hA0, hV, rfl, hfz, hnd⟩ := hW
  have hA : DataW.TrodAll enc Try.prog W 0 (fun _ => true) true Try.f4.params.toList args.toList ds p := hA0
  rw [Try.params4] at hA hval
  obtain ⟨v0, vs0, d0, ds0, p0, q0, hargs, rfl, rfl, h0, r0⟩ := trodAll_cons hA
  obtain ⟨rfl, rfl, rfl⟩ := trodAll_nil r0
  obtain rfl : args = #[v0] := by cases args; simp_all
  obtain ⟨rfl, rfl⟩ := trodVars_none hV
  obtain ⟨a0, len0, cap0, rfl⟩ := okWide_slice Try.underlying22 (hval 0 22 v0 rfl rfl)
  have k0 := h0
  have lt0 : ∀ x ∈ p0, x.block < W.heap.size := by obtain ⟨m, hm⟩ := k0; exact DataW.trod_lt m _ _ _ hm
  obtain ⟨z0, H0, U0, M0⟩ := has_of_trod (k := .u8) Try.underlying22 Try.underlying5 (by kernel_rfl) h0
  clear hA0 hval0
  refine (walk_FnArrivalsNear H0 U0 M0).mono fun e W' ⟨he, bel⟩ => ?_
  subst he
  exact ⟨_, rfl, _, _, _, [], _, [], hW', trodAll_mk1 (shut_bool Try.underlying4 _), (trodAll_cons_mk (Below.trod (by kernel_rfl) (by kernel_rfl) (of_decide_eq_true (by kernel_rfl)) k0 bel lt0) trodAll_mk0), rfl, bel.frame _, fun h => by cases h⟩

theorem fnArrivalsNear_holds : Rows.FnArrivalsNearSaid :=
  OpenClaim.holds_of_wide 4 Try.f4 rfl rfl rfl rfl rfl rfl rfl ⟨rfl, rfl, rfl, rfl, rfl⟩ rfl rfl rfl rfl rfl (by kernel_rfl) Try.func4 (by kernel_rfl)
    (of_decide_eq_true (by kernel_rfl)) (by unfold Func.isWrapper; first | (rw [if_pos (by decide +kernel)]; kernel_rfl) | (rw [if_neg (by decide +kernel)]; exact ⟨rfl, rfl⟩))
    (fun os started H enc _ => lifted_FnArrivalsNear os started H enc)
end Go.Proofs.Ytafplpechpoliaa
