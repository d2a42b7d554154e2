/-
  FnLastSeen: for every slice of bytes the law returns true and writes nothing that was there. No condition.
-/
import Derived.Test.YtmnhgghnaklneaaImp6
import Derived.Test.YtmnhgghnaklneaaDrawHops
import Derived.Test.YtmnhgghnaklneaaWnInts
namespace Go.Proofs.Ytmnhgghnaklneaa
open Go.RowKit Go.ChangeShapes Go.WideShapes Go.ChangeAt

theorem lastOf_snoc (s : Int) (hs : List Hop3) (h : Hop3) (d : Int) : lastOf s (hs ++ [h]) d = if h.1 = s then h.2.2 else lastOf s hs d := by
  induction hs generalizing d with
  | nil => rfl
  | cons g gs ih => simp only [List.cons_append, lastOf, ih]
theorem fresh_at (s : Nat) (h : s < 15) : freshL.getD s (-1) = -1 := by
  exact (by decide : ∀ s : Nat, s < 15 → freshL.getD s (-1) = -1) s h

set_option maxHeartbeats 8000000 in
set_option maxRecDepth 100000 in
theorem walk_FnLastSeen {A0 : Option Addr} {n0 c0 : Nat} {zs0 : List Int} {w : World} (h0 : Has w A0 n0 (ints .u8 zs0)) (hwf0 : ∀ z ∈ zs0, (Lit.int .u8 z).wf = true) (hc0 : n0 ≤ c0 ∧ c0 ≤ maxLen) :
    Calls Try.prog 7 #[.slice A0 n0 c0] w fun e w' => e = .returned (.bool true) ∧ Below w.heap.size w w' := by
  have hu0 : U8s zs0 := fun z hz => u8_of_wf (hwf0 z hz)
  clear hwf0
  by_cases hn0 : n0 ≤ 1048576
  · go_enter Try.func7, Try.ntmps7
    go_wp2_with (fail)
    refine (drawRunBridge_any h0 hu0 hc0).mono ?_
    rintro e w1 h
    unfold HopsO at h
    obtain ⟨ports, A1, n1, c1, hs, rfl, H1, T1, hn1, hpo, B1⟩ := h
    go_wp2_with (fail)
    refine (implRunBridge_any H1 T1.i64 (by omega) (by omega)).mono ?_
    rintro e w2 h2
    unfold RunRes at h2
    obtain ⟨A2, n2, c2, A3, n3, c3, vs, rfl, O2, V2, F2, B2⟩ := h2
    have C2 := bel_trans B1 B2
    have H2 := H1.bel B2
    go_wp2_with (fail)
    refine (specRunBridge_w H2 (by omega)).mono ?_
    rintro e w3 h3
    unfold RunRes at h3
    obtain ⟨A4, n4, c4, A5, n5, c5, us, rfl, O3, V3, F3, B3⟩ := h3
    have C3 := bel_trans C2 B3
    have H3 := H2.bel B3
    have P3 := O2.bel B3
    clear V2 F2 V3 F3 O2 H1 H2 C2 B1 B2 B3
    by_cases hb : runB ports hs = true
    · obtain ⟨rr, hrr⟩ : ∃ rr, runR ports hs = some rr := by
        unfold runB at hb
        cases hx : runR ports hs with
        | none => rw [hx] at hb; cases hb
        | some r => exact ⟨r, rfl⟩
      have hok : runOk ports hs := by
        unfold runR at hrr
        split at hrr
        · assumption
        · cases hrr
      have hrt : runTo ports freshL hs = some rr := by unfold runR at hrr; rw [if_pos hok] at hrr; exact hrr
      have hT : runT ports hs = rr.1 := by unfold runT; rw [hrr]; rfl
      have h15 : rr.1.length = 15 := (runTo_ok (fresh_ok hok.1) hrt).1.1
      have HLS : Hid (∀ s : Nat, s < 15 → ∀ z, rr.1[s]? = some z → z = lastOf (s : Int) hs (-1)) := fun s hs15 z hz => by
        have := last_seen (fresh_ok hok.1) hrt s hs15
        rw [fresh_at s hs15, List.getD_eq_getElem?_getD, hz] at this
        exact this
      rw [hT] at P3 O3
      obtain rfl : n2 = 15 := by have := P3.has.len; omega
      rw [hb]
      have HLN := Lib.hid H3.1
      clear hb hrr hok hrt hT h15
      go_wp2_with (fail)
      refine (wnInts_same P3.has O3.has (by omega)).mono ?_
      rintro e w4 ⟨rfl, B4⟩
      have C4 := bel_trans C3 B4
      have P4 := P3.bel B4
      have H4 := H3.bel B4
      clear P3 H3 O3 C3 B4
      go_wp2
      obtain ⟨wo, rfl⟩ : ∃ wo : World, wo = w4 := ⟨_, rfl⟩
      go_loopw [61] (fun t wr => ∃ s : Nat, s ≤ 15 ∧ t = .int .i64 (s : Int) ∧ Below wo.heap.size wo wr) (fun t _ => 15 - (intOf t).toNat)
      case atStart => exact ⟨0, Nat.zero_le _, rfl, Below.refl _ _⟩
      case round =>
        obtain ⟨s, hs15, rfl, B5⟩ := hrel
        by_cases hlt : s < 15
        · have hltB : decide ((s : Int) < 15) = true := by simp; omega
          obtain ⟨b, o, z, rfl, hbl, hz, hc⟩ := (P4.bel B5).has.at_ hlt
          have HZ := Lib.hid (HLS.out s hlt z hz)
          clear hz
          go_wp2
          obtain ⟨wp, rfl⟩ : ∃ wp : World, wp = wr := ⟨_, rfl⟩
          go_loopw [13, 68] (fun v t wr2 => ∃ k : Nat, k ≤ n1 ∧ t = .int .i64 (k : Int) ∧ v = .int .i64 (lastOf (s : Int) (hs.take k) (-1)) ∧ Below wp.heap.size wp wr2) (fun _ t _ => n1 - (intOf t).toNat)
          case atStart => exact ⟨0, Nat.zero_le _, rfl, rfl, Below.refl _ _⟩
          case round =>
            obtain ⟨k, hk, rfl, rfl, B6⟩ := hrel
            by_cases hlk : k < n1
            · have hkB : decide ((k : Int) < (n1 : Int)) = true := by simp; omega
              obtain ⟨b2, o2, f, t, q, rfl, hbl2, hx, d0, d1, d2⟩ := ((H4.bel B5).bel B6).at_ hlk
              have HT := Lib.hid (take_snoc hx)
              have HS := Lib.hid (lastOf_snoc (s : Int) (hs.take k) (f, t, q) (-1))
              have B7 := bel_trans B6 ((Below.refl wr.heap.size wr).alloc (Nat.le_refl _) (.cells #[.int .i64 f, .int .i64 t, .int .i64 q] 33))
              clear hx
              by_cases hf : f = (s : Int)
              · have hfB : (f == (s : Int)) = true := by simp [hf]
                have HS2 := Lib.hid (HS.out.trans (if_pos hf))
                clear hf
                go_wp2
                go_roundw
                case rel => exact ⟨k + 1, by omega, by go_num, by rw [HT.out, HS2.out], B7⟩
                case measure => simp [intOf]; omega
              · have hfB : (f == (s : Int)) = false := by simp [hf]
                have HS2 := Lib.hid (HS.out.trans (if_neg hf))
                clear hf
                go_wp2
                go_roundw
                case rel => exact ⟨k + 1, by omega, by go_num, by rw [HT.out, HS2.out], B7⟩
                case measure => simp [intOf]; omega
            · have hkB : decide ((k : Int) < (n1 : Int)) = false := by simp; omega
              obtain rfl : k = n1 := by omega
              have hzl : (z != lastOf (s : Int) (hs.take k) (-1)) = false := by
                rw [List.take_of_length_le (by rw [HLN.out]; omega), ← HZ.out]; simp
              generalize lastOf (s : Int) (hs.take k) (-1) = lz at *
              have B8 := bel_trans B5 B6
              go_wp2
              go_roundw
              case rel => exact ⟨s + 1, by omega, by go_num, B8⟩
              case measure => simp [intOf]; omega
        · have hltB : decide ((s : Int) < 15) = false := by simp; omega
          obtain rfl : s = 15 := by omega
          go_wp2
          go_ret
          exact ⟨rfl, bel_trans C4 B5⟩
    · have hbf : runB ports hs = false := by simpa using hb
      rw [hbf]
      clear hb hbf
      have hn2 : n2 ≤ 16777216 := by
        have h1 := P3.has.len
        have h2 : (runT ports hs).length ≤ 15 := by
          unfold runT
          cases hx : runR ports hs with
          | none => simp
          | some r =>
            have hok : runOk ports hs := by
              unfold runR at hx
              split at hx
              · assumption
              · cases hx
            have hrt : runTo ports freshL hs = some r := by unfold runR at hx; rw [if_pos hok] at hx; exact hx
            have := (runTo_ok (fresh_ok hok.1) hrt).1.1
            simp; omega
        omega
      go_wp2_with (fail)
      refine (wnInts_same P3.has O3.has hn2).mono ?_
      rintro e w4 ⟨rfl, B4⟩
      have C4 := bel_trans C3 B4
      have P4 := P3.bel B4
      have Q4 := O3.bel B4
      go_wp2_with (fail)
      refine (wnInts_same P4.has Q4.has hn2).mono ?_
      rintro e w5 ⟨rfl, B5⟩
      go_wp2
      go_ret
      exact ⟨rfl, bel_trans C4 B5⟩
  · go_enter Try.func7, Try.ntmps7
    go_wp2
    go_ret
    exact ⟨rfl, Below.refl _ _⟩
set_option maxRecDepth 100000 in
theorem lifted_FnLastSeen (os : Os) (started : os.Started) (H : Type) (enc : TypeId × Value → H) :
    ReturnsInHanded {} Try.checked os 7 .any (Rows.fnLastSeenSpec.pre6 enc Try.prog Try.f7 Rows.fnLastSeenRow.domain false) (Rows.fnLastSeenSpec.post enc Try.prog Try.f7 false true false false) := by
  refine returnsInHanded_of_change (C := Try.checked) (by kernel_rfl) started (by kernel_rfl) Try.func7
    (ChangeSpec.witness6 (enc := enc) (C := Try.checked) false ⟨#[], #[.slice none 0 0], []⟩ 8 (by kernel_rfl) (by kernel_rfl) (by kernel_rfl) (by kernel_rfl)) ?_
  intro W base args ds gs before hval0 hW hcnd _
  have hval : ∀ (j : Nat) t v, Try.f7.params[j]? = some t → args[j]? = some v → Value.okWide Try.prog W .any base t v := hval0
  have hW' := hW
  obtain ⟨p, q, hA0, hV, rfl, hfz, hnd⟩ := hW
  have hA : DataW.TrodAll enc Try.prog W 0 (fun _ => true) true Try.f7.params.toList args.toList ds p := hA0
  rw [Try.params7] at hA hval
  obtain ⟨v0, vs0, d0, ds0, p0, q0, hargs, rfl, rfl, h0, r0⟩ := trodAll_cons hA
  obtain ⟨rfl, rfl, rfl⟩ := trodAll_nil r0
  obtain rfl : args = #[v0] := by cases args; simp_all
  obtain ⟨rfl, rfl⟩ := trodVars_none hV
  obtain ⟨a0, len0, cap0, rfl⟩ := okWide_slice Try.underlying22 (hval 0 22 v0 rfl rfl)
  have k0 := h0
  have lt0 : ∀ x ∈ p0, x.block < W.heap.size := by obtain ⟨m, hm⟩ := k0; exact DataW.trod_lt m _ _ _ hm
  obtain ⟨z0, H0, U0, M0⟩ := has_of_trod (k := .u8) Try.underlying22 Try.underlying5 (by kernel_rfl) h0
  clear hA0 hval0
  refine (walk_FnLastSeen H0 U0 M0).mono fun e W' ⟨he, bel⟩ => ?_
  subst he
  exact ⟨_, rfl, _, _, _, [], _, [], hW', trodAll_mk1 (shut_bool Try.underlying4 _), (trodAll_cons_mk (Below.trod (by kernel_rfl) (by kernel_rfl) (of_decide_eq_true (by kernel_rfl)) k0 bel lt0) trodAll_mk0), rfl, bel.frame _, fun h => by cases h⟩

theorem fnLastSeen_holds : Rows.FnLastSeenSaid :=
  OpenClaim.holds_of_wide 7 Try.f7 rfl rfl rfl rfl rfl rfl rfl ⟨rfl, rfl, rfl, rfl, rfl⟩ rfl rfl rfl rfl rfl (by kernel_rfl) Try.func7 (by kernel_rfl)
    (of_decide_eq_true (by kernel_rfl)) (by unfold Func.isWrapper; first | (rw [if_pos (by decide +kernel)]; kernel_rfl) | (rw [if_neg (by decide +kernel)]; exact ⟨rfl, rfl⟩))
    (fun os started H enc _ => lifted_FnLastSeen os started H enc)
end Go.Proofs.Ytmnhgghnaklneaa
