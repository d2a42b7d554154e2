/-
  FnPassWire: for every slice of bytes the law returns true and writes nothing that was there. No condition.
-/
import Derived.Test.YtafplpechpoliaaImp4
import Derived.Test.YtafplpechpoliaaDrawFates
import Derived.Test.YtafplpechpoliaaListLaws
import Derived.Test.YtafplpechpoliaaMath1
import Derived.Deep.RegionWith
namespace Go.Proofs.Ytafplpechpoliaa
open Go.RowKit Go.ChangeShapes Go.WideShapes Go.ChangeAt

theorem got_facts {fs : List Int} {l : List (List Int)} {i : Nat} {p : List Int} (hp : l[i]? = some p) (hu : U8s p) (h6 : p.length ≤ 600) :
    U8s (gotN fs l i) ∧ (gotN fs l i).length = p.length ∧ distOf (gotN fs l i) p = if fateN fs i = 4 ∧ 0 < p.length then 1 else 0 := by
  rw [gotN_at fs l i p hp]
  by_cases h : fateN fs i = 4 ∧ 0 < p.length
  · rw [if_pos h, if_pos h]
    obtain ⟨f1, f2, _, _, _, f3⟩ := flip_back p 0 hu ⟨h6, by omega, by have := h.2; omega⟩
    exact ⟨f2, f1, f3⟩
  · rw [if_neg h, if_neg h]
    exact ⟨hu, rfl, (dist_zero p p hu hu).2 ⟨rfl, h6⟩⟩
theorem pass_some {fs : List Int} {l : List (List Int)} (h : 0 < (passL fs l).length) : listOk l ∧ fOk fs ∧ passL fs l = gotOf fs l (arrI fs (l.length : Int)) := by
  unfold passL at h ⊢
  split at h
  · rename_i hl
    refine ⟨hl, ?_, if_pos hl⟩
    unfold gotOf arrI at h
    split at h
    · rename_i hf; exact hf.1
    · simp at h
  · simp at h

set_option maxHeartbeats 16000000 in
set_option maxRecDepth 100000 in
theorem walk_FnPassWire {A0 : Option Addr} {n0 c0 : Nat} {zs0 : List Int} {w : World} (h0 : Has w A0 n0 (ints .u8 zs0)) (hwf0 : ∀ z ∈ zs0, (Lit.int .u8 z).wf = true) (hc0 : n0 ≤ c0 ∧ c0 ≤ maxLen) :
    Calls Try.prog 5 #[.slice A0 n0 c0] w fun e w' => e = .returned (.bool true) ∧ Below w.heap.size w w' := by
  have hu0 : U8s zs0 := fun z hz => u8_of_wf (hwf0 z hz)
  clear hwf0
  by_cases hn0 : n0 ≤ 1048576
  · go_enter Try.func5, Try.ntmps5
    go_wp2_with (fail)
    refine (drawPassWire_any h0 hu0 hc0).mono ?_
    rintro e w1 h
    unfold FatL at h
    obtain ⟨A1, n1, c1, fs, B, m, d, l, rfl, O1, hf, hn1, L1, hl, hm, B1⟩ := h
    have HC := Lib.hid O1.cap
    have HD := Lib.hid L1.cap
    have hul : ∀ q ∈ l, U8s q := fun q hq => (hl q hq).1
    have hll : ∀ q ∈ l, q.length ≤ 16777216 := fun q hq => by have := (hl q hq).2; omega
    have HUL := Lib.hid hul
    have HLL := Lib.hid hll
    have HLE := Lib.hid L1.has.len
    clear hl hul hll
    go_wp2_with (fail)
    refine (implPassWire_any O1.has hf.i64s (by omega) HC.out L1.has HUL.out HLL.out (by omega) HD.out).mono ?_
    rintro e w2 ⟨A2, n2, c2, rfl, O2, B2⟩
    have C2 := bel_trans B1 B2
    have P2 := O1.bel B2
    have L2 := L1.bel B2
    have hn2 : n2 ≤ 120 := by have q1 := O2.has.len; have q2 := (passL_lens fs l).1; omega
    go_wp2_with (fail)
    refine (specPassWire_any P2.has hf.i64s (by omega) HC.out L2.has HUL.out HLL.out (by omega) HD.out).mono ?_
    rintro e w3 ⟨A3, n3, c3, rfl, O3, B3⟩
    have C3 := bel_trans C2 B3
    have P3 := P2.bel B3
    have L3 := L2.bel B3
    have Q3 := O2.bel B3
    go_wp2_with (fail)
    refine (wnTexts_b Q3.has O3.has (by omega)).mono ?_
    rintro e w4 ⟨rfl, B4⟩
    have C4 := bel_trans C3 B4
    have P4 := P3.bel B4
    have L4 := L3.bel B4
    have Q4 := Q3.bel B4
    by_cases hz : n2 = 0
    · have hzB : ((n2 : Int) == 0) = true := by simp [hz]
      clear hz
      go_wp2_with (fail)
      refine (specPassWire_any P4.has hf.i64s (by omega) HC.out L4.has HUL.out HLL.out (by omega) HD.out).mono ?_
      rintro e w5 ⟨A5, n5, c5, rfl, O5, B5⟩
      have C5 := bel_trans C4 B5
      go_wp2_with (fail)
      refine (wnTexts_b (Q4.bel B5).has O5.has (by omega)).mono ?_
      rintro e w6 ⟨rfl, B6⟩
      go_wp2
      go_ret
      exact ⟨rfl, bel_trans C5 B6⟩
    · have hzB : ((n2 : Int) == 0) = false := by simp [hz]
      have hpos : 0 < (passL fs l).length := by have := Q4.has.len; omega
      obtain ⟨hlo, hg, hpe⟩ := pass_some hpos
      rw [HLE.out] at hpe
      have hm6 : m ≤ 60 := by have := hlo.2; have := HLE.out; omega
      have HG6 := Lib.hid hlo.1
      have HPE := Lib.hid hpe
      have HQL : Hid (n2 = (arrI fs (m : Int)).length) := by
        have h1 := Q4.has.len
        rw [hpe] at h1
        have h2 : n2 = (arrI fs (m : Int)).length := by rw [← h1]; unfold gotOf; rw [List.length_map]
        exact h2
      have HGA : Hid (∀ (k : Nat) (x : Int), (arrI fs (m : Int))[k]? = some x → (passL fs l)[k]? = some (gotN fs l x.toNat) ∧ 0 ≤ x ∧ x < (m : Int)) := by
        have hh : ∀ (k : Nat) (x : Int), (arrI fs (m : Int))[k]? = some x → (passL fs l)[k]? = some (gotN fs l x.toNat) ∧ 0 ≤ x ∧ x < (m : Int) := by
          intro k x hx
          have hb := arrI_b (List.mem_of_getElem? hx)
          exact ⟨by rw [hpe]; unfold gotOf; rw [List.getElem?_map, hx]; rfl, hb.1, hb.2.1⟩
        exact hh
      have HF : ∀ (k : Nat) (W : World), k ≤ 100000 → Below w4.heap.size w4 W → Calls Try.prog 22 #[.slice A1 n1 c1, .int .i64 (k : Int)] W fun e w' => e = .returned (.int .i64 (fateN fs k)) ∧ Below W.heap.size W w' := fun k W hk hW => by
        have := implFateOf_any (i := (k : Int)) (P4.bel hW).has hf.i64s (by omega) HC.out (by omega)
        rwa [fateI_yes hg k] at this
      have HFH := Lib.hid HF
      clear HF hpos hlo hg hpe hz
      go_wp2_with (fail)
      refine (implArrivalsOf_any P4.has hf.i64s (by omega) HC.out (by omega)).mono ?_
      rintro e w5 ⟨A5, n5, c5, rfl, O5, B5⟩
      have C5 := bel_trans C4 B5
      have P5 := P4.bel B5
      have L5 := L4.bel B5
      have Q5 := Q4.bel B5
      obtain rfl : n5 = n2 := by have h1 := O5.has.len; rw [HQL.out, h1]
      go_wp2
      obtain ⟨wo, rfl⟩ : ∃ wo : World, wo = w5 := ⟨_, rfl⟩
      go_loopw [42] (fun i wr => ∃ k : Nat, k ≤ n5 ∧ i = .int .i64 ((k : Nat) : Int) ∧ Below wo.heap.size wo wr) (fun i _ => n5 - (intOf i).toNat)
      case atStart => exact ⟨0, Nat.zero_le _, rfl, Below.refl _ _⟩
      case round =>
        obtain ⟨k, hk, rfl, B6⟩ := hrel
        by_cases hlt : k < n5
        · have hltB : decide ((k : Int) < (n5 : Int)) = true := by simp; omega
          obtain ⟨b1, o1, x, rfl, hbl1, hx1, hc1⟩ := (O5.bel B6).has.at_ hlt
          obtain ⟨hgx, x0, x1⟩ := HGA.out k x hx1
          obtain ⟨j, rfl⟩ := Int.eq_ofNat_of_zero_le x0
          have hjm : j < m := by omega
          rw [Int.toNat_natCast] at hgx
          have QD : OwnL wr.drew w1.heap.size A2 n5 c2 (passL fs l) := (Q5.bel B6).bel (below_drewN wr 1)
          have LD : OwnL wr.drew w.heap.size B m d l := (L5.bel B6).bel (below_drewN wr 1)
          obtain ⟨b2, o2, X2, t2, d2, g, rfl, hbl2, hg2, hc2, hqd2, hX2⟩ := QD.has.at_ hlt
          obtain ⟨b3, o3, X3, t3, d3, p, rfl, hbl3, hp3, hc3, hqd3, hX3⟩ := LD.has.at_ hjm
          obtain rfl : g = gotN fs l j := by rw [hgx] at hg2; injection hg2 with hg2; exact hg2.symm
          have hup := HUL.out p (List.mem_of_getElem? hp3)
          have hp6 := HG6.out p (List.mem_of_getElem? hp3)
          obtain ⟨gu, gl, gd⟩ := got_facts (fs := fs) hp3 hup hp6
          have ht2 : t2 ≤ 600 := by have := hX2.len; omega
          have ht3 : t3 ≤ 600 := by have := hX3.len; omega
          obtain ⟨dv, hdv⟩ : ∃ dv : Int, dv = if fateN fs j = 4 ∧ 0 < t3 then 1 else 0 := ⟨_, rfl⟩
          have CD : ∀ W : World, Below wr.drew.heap.size wr.drew W → Calls Try.prog 27 #[.slice X2 t2 d2, .slice X3 t3 d3] W fun e w' => e = .returned (.int .i64 dv) ∧ Below W.heap.size W w' := fun W hW => by
            have := implDistance_any (c := d2) (c' := d3) (hX2.bel hW) gu (by omega) (hX3.bel hW) hup (by omega)
            rw [gd, hX3.len, ← hdv] at this
            exact this
          have CDH := Lib.hid (CD wr.drew (Below.refl _ _))
          have CF := HFH.out j
          have hk0 : (0 : Int) ≤ (k : Int) := by omega
          have hk1 : (k : Int) < (n5 : Int) := by omega
          have hj0 : (0 : Int) ≤ (j : Int) := by omega
          have hj1 : (j : Int) < (m : Int) := by omega
          generalize fateN fs j = f at *
          have HDV := Lib.hid hdv
          have CFH := Lib.hid CF
          have LR := (L5.bel B6)
          clear CF CD hdv gd gu gl hgx hp3 hg2 hx1 x0 x1 hX2 hX3 hup hp6
          go_wp2_with (fail)
          go_region_with (go_at_call 27; refine CDH.out.mono ?_; rintro e w7 ⟨rfl, B7⟩)
          all_goals
            have B7' : Below wr.heap.size wr w7 := ⟨B7.os, B7.tape, B7.output, B7.size, B7.block⟩
            have B67 := bel_trans B6 B7'
            by_cases hf4 : f = 4
            · have hfB : (f == 4) = true := by simp [hf4]
              by_cases ht0 : 0 < t3
              · have htB : decide ((0 : Int) < (t3 : Int)) = true := by simp; omega
                obtain rfl : dv = 1 := HDV.out.trans (if_pos ⟨hf4, ht0⟩)
                clear hf4
                go_wp2_with (fail)
                refine (CFH.out w7 (by omega) (bel_trans B5 B67)).mono ?_
                rintro e w8 ⟨rfl, B8⟩
                have hc8 := ((bel_trans B7 B8).cell (p := ⟨b3, o3 + j, none⟩) hbl3).trans hc3
                go_wp2
                go_roundw
                case rel => exact ⟨k + 1, by omega, by go_num, bel_trans B67 B8⟩
                case measure => simp [intOf]; omega
              · have htB : decide ((0 : Int) < (t3 : Int)) = false := by simp; omega
                obtain rfl : dv = 0 := HDV.out.trans (if_neg (fun hh => ht0 hh.2))
                clear hf4
                go_wp2_with (fail)
                refine (CFH.out w7 (by omega) (bel_trans B5 B67)).mono ?_
                rintro e w8 ⟨rfl, B8⟩
                have hc8 := ((bel_trans B7 B8).cell (p := ⟨b3, o3 + j, none⟩) hbl3).trans hc3
                go_wp2
                go_roundw
                case rel => exact ⟨k + 1, by omega, by go_num, bel_trans B67 B8⟩
                case measure => simp [intOf]; omega
            · have hfB : (f == 4) = false := by simp [hf4]
              obtain rfl : dv = 0 := HDV.out.trans (if_neg (fun hh => hf4 hh.1))
              clear hf4
              go_wp2_with (fail)
              refine (CFH.out w7 (by omega) (bel_trans B5 B67)).mono ?_
              rintro e w8 ⟨rfl, B8⟩
              go_wp2
              go_roundw
              case rel => exact ⟨k + 1, by omega, by go_num, bel_trans B67 B8⟩
              case measure => simp [intOf]; omega
        · have hltB : decide ((k : Int) < (n5 : Int)) = false := by simp; omega
          go_wp2_with (fail)
          refine (implArrivalsOf_any (P5.bel B6).has hf.i64s (by omega) HC.out (by omega)).mono ?_
          rintro e w7 ⟨A7, n7, c7, rfl, O7, B7⟩
          obtain rfl : n7 = n5 := by have h1 := O7.has.len; rw [HQL.out, h1]
          go_wp2
          go_ret
          exact ⟨rfl, bel_trans (bel_trans C5 B6) B7⟩
  · go_enter Try.func5, Try.ntmps5
    go_wp2
    go_ret
    exact ⟨rfl, Below.refl _ _⟩
set_option maxRecDepth 100000 in
theorem lifted_FnPassWire (os : Os) (started : os.Started) (H : Type) (enc : TypeId × Value → H) :
    ReturnsInHanded {} Try.checked os 5 .any (Rows.fnPassWireSpec.pre6 enc Try.prog Try.f5 Rows.fnPassWireRow.domain false) (Rows.fnPassWireSpec.post enc Try.prog Try.f5 false true false false) := by
  refine returnsInHanded_of_change (C := Try.checked) (by kernel_rfl) started (by kernel_rfl) Try.func5
    (ChangeSpec.witness6 (enc := enc) (C := Try.checked) false ⟨#[], #[.slice none 0 0], []⟩ 8 (by kernel_rfl) (by kernel_rfl) (by kernel_rfl) (by kernel_rfl)) ?_
  intro W base args ds gs before hval0 hW hcnd _
  have hval : ∀ (j : Nat) t v, Try.f5.params[j]? = some t → args[j]? = some v → Value.okWide Try.prog W .any base t v := hval0
  have hW' := hW
  obtain ⟨p, q, hA0, hV, rfl, hfz, hnd⟩ := hW
  have hA : DataW.TrodAll enc Try.prog W 0 (fun _ => true) true Try.f5.params.toList args.toList ds p := hA0
  rw [Try.params5] at hA hval
  obtain ⟨v0, vs0, d0, ds0, p0, q0, hargs, rfl, rfl, h0, r0⟩ := trodAll_cons hA
  obtain ⟨rfl, rfl, rfl⟩ := trodAll_nil r0
  obtain rfl : args = #[v0] := by cases args; simp_all
  obtain ⟨rfl, rfl⟩ := trodVars_none hV
  obtain ⟨a0, len0, cap0, rfl⟩ := okWide_slice Try.underlying22 (hval 0 22 v0 rfl rfl)
  have k0 := h0
  have lt0 : ∀ x ∈ p0, x.block < W.heap.size := by obtain ⟨m, hm⟩ := k0; exact DataW.trod_lt m _ _ _ hm
  obtain ⟨z0, H0, U0, M0⟩ := has_of_trod (k := .u8) Try.underlying22 Try.underlying5 (by kernel_rfl) h0
  clear hA0 hval0
  refine (walk_FnPassWire H0 U0 M0).mono fun e W' ⟨he, bel⟩ => ?_
  subst he
  exact ⟨_, rfl, _, _, _, [], _, [], hW', trodAll_mk1 (shut_bool Try.underlying4 _), (trodAll_cons_mk (Below.trod (by kernel_rfl) (by kernel_rfl) (of_decide_eq_true (by kernel_rfl)) k0 bel lt0) trodAll_mk0), rfl, bel.frame _, fun h => by cases h⟩

theorem fnPassWire_holds : Rows.FnPassWireSaid :=
  OpenClaim.holds_of_wide 5 Try.f5 rfl rfl rfl rfl rfl rfl rfl ⟨rfl, rfl, rfl, rfl, rfl⟩ rfl rfl rfl rfl rfl (by kernel_rfl) Try.func5 (by kernel_rfl)
    (of_decide_eq_true (by kernel_rfl)) (by unfold Func.isWrapper; first | (rw [if_pos (by decide +kernel)]; kernel_rfl) | (rw [if_neg (by decide +kernel)]; exact ⟨rfl, rfl⟩))
    (fun os started H enc _ => lifted_FnPassWire os started H enc)
end Go.Proofs.Ytafplpechpoliaa
