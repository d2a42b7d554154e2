/-
  Chapter 16's model, HasRound: what is proved here is what it returns, and that it writes nothing that was there. Condition: lengths up to 2^24.
-/
import Derived.Test.YthcfjnedpffbbaaDoorFabC
namespace Go.Proofs.YthcfjnedpffbbaaDoor
open Go.RowKit

/- Pairs in slices that lie in memory: the slices, and what lies in them. -/
def InP (w : World) (vs : List Value) (L : List (Nat × Nat)) : Prop :=
  vs.length = L.length ∧ ∀ (i : Nat) (v : Value) (x : Nat × Nat), vs[i]? = some v → L[i]? = some x → ∃ b o d, v = .slice (some ⟨b, o, none⟩) 2 d ∧ 2 ≤ d ∧ b < w.heap.size ∧ w.cell? ⟨b, o, none⟩ = some (.int .i64 (x.1 : Int)) ∧ w.cell? ⟨b, o + 1, none⟩ = some (.int .i64 (x.2 : Int))
theorem inP_of {w : World} {A : Option Addr} {n : Nat} {L : List (Nat × Nat)} (h : HasLI w A n (rows L)) : ∃ vs, Has w A n vs ∧ InP w vs L := by
  obtain ⟨vs, h1, h2, h3⟩ := h
  rw [rows_len] at h2
  refine ⟨vs, h1, h2, fun i v x hv hx => ?_⟩
  obtain ⟨B, m, c, rfl, hmc, hH⟩ := h3 i v [(x.1 : Int), (x.2 : Int)] hv (by unfold rows; rw [List.getElem?_map, hx]; rfl)
  obtain rfl : m = 2 := hH.len.symm
  obtain ⟨b, o, z, rfl, hb, hz, c0⟩ := hH.at_ (show 0 < 2 by decide)
  obtain ⟨b', o', z', hA, _, hz', c1⟩ := hH.at_ (show 1 < 2 by decide)
  injection hA with hA
  injection hA with q1 q2
  subst q1 q2
  obtain rfl : (x.1 : Int) = z := by simpa using hz
  obtain rfl : (x.2 : Int) = z' := by simpa using hz'
  exact ⟨b, o, c, rfl, hmc, hb, c0, c1⟩
theorem inP_nil (w : World) : InP w [] [] := ⟨rfl, fun i v x hv => by simp at hv⟩
theorem InP.snoc {w : World} {vs : List Value} {L : List (Nat × Nat)} {v : Value} {x : Nat × Nat} (h : InP w vs L) {us : List Value} {M : List (Nat × Nat)} {i : Nat} (k : InP w us M) (hv : us[i]? = some v) (hx : M[i]? = some x) : InP w (vs ++ [v]) (L ++ [x]) := by
  refine ⟨by simp [h.1], fun j u y hu hy => ?_⟩
  by_cases hj : j < vs.length
  · rw [List.getElem?_append_left hj] at hu
    rw [List.getElem?_append_left (by have := h.1; omega)] at hy
    exact h.2 j u y hu hy
  · have hl := (List.getElem?_eq_some_iff.1 hu).1
    simp at hl
    obtain rfl : j = vs.length := by omega
    rw [List.getElem?_append_right (Nat.le_refl _), Nat.sub_self] at hu
    rw [h.1, List.getElem?_append_right (Nat.le_refl _), Nat.sub_self] at hy
    obtain rfl : v = u := by simpa using hu
    obtain rfl : x = y := by simpa using hy
    exact k.2 i v x hv hx
theorem InP.at_ {w wr : World} {A : Option Addr} {n i : Nat} {vs : List Value} {L : List (Nat × Nat)} (h : InP w vs L) (k : Has wr A n vs) (hb : Below w.heap.size w wr) (hi : i < n) :
    ∃ b o B O d x, A = some ⟨b, o, none⟩ ∧ L[i]? = some x ∧ vs[i]? = some (.slice (some ⟨B, O, none⟩) 2 d) ∧ b < wr.heap.size ∧ wr.cell? ⟨b, o + i, none⟩ = some (.slice (some ⟨B, O, none⟩) 2 d) ∧ 2 ≤ d ∧ B < w.heap.size ∧ wr.cell? ⟨B, O, none⟩ = some (.int .i64 (x.1 : Int)) ∧ wr.cell? ⟨B, O + 1, none⟩ = some (.int .i64 (x.2 : Int)) := by
  obtain ⟨b, o, hA, hc⟩ := k.2 i hi
  have hl := k.1
  have hv : vs[i]? = some vs[i] := List.getElem?_eq_getElem (by omega)
  have hL := h.1
  have hx : L[i]? = some L[i] := List.getElem?_eq_getElem (by omega)
  obtain ⟨B, O, d, e, hd, hB, c0, c1⟩ := h.2 i _ _ hv hx
  rw [hv, e] at hc
  refine ⟨b, o, B, O, d, _, hA, hx, by rw [hv, e], World.block_lt_of_cell? wr _ hc, hc, hd, hB, (hb.cell (p := ⟨B, O, none⟩) hB).trans c0, (hb.cell (p := ⟨B, O + 1, none⟩) hB).trans c1⟩

/- The pairs that stay, one by one. -/
def goesTo (L : List (Nat × Nat)) (j q : Nat) : Bool := (L.take j).any fun y => y.1 == q
theorem goesTo_zero (L : List (Nat × Nat)) (q : Nat) : goesTo L 0 q = false := rfl
theorem goesTo_next {L : List (Nat × Nat)} {j q : Nat} {y : Nat × Nat} (h : L[j]? = some y) : goesTo L (j + 1) q = (goesTo L j q || y.1 == q) := by
  unfold goesTo
  rw [List.take_add_one, h, List.any_append]
  simp
def pruneTo (L : List (Nat × Nat)) (i : Nat) : List (Nat × Nat) := (L.take i).filter fun x => goesTo L L.length x.2
theorem pruneTo_zero (L : List (Nat × Nat)) : pruneTo L 0 = [] := rfl
theorem pruneTo_all (L : List (Nat × Nat)) : pruneTo L L.length = prune L := by unfold pruneTo prune goesTo; rw [List.take_length]
theorem pruneTo_yes {L : List (Nat × Nat)} {i : Nat} {x : Nat × Nat} (h : L[i]? = some x) (k : goesTo L L.length x.2 = true) : pruneTo L (i + 1) = pruneTo L i ++ [x] := by
  unfold pruneTo
  rw [List.take_add_one, h, List.filter_append]
  simp [k]
theorem pruneTo_no {L : List (Nat × Nat)} {i : Nat} {x : Nat × Nat} (h : L[i]? = some x) (k : goesTo L L.length x.2 = false) : pruneTo L (i + 1) = pruneTo L i := by
  unfold pruneTo
  rw [List.take_add_one, h, List.filter_append]
  simp [k]
theorem pruneTo_len (L : List (Nat × Nat)) (i : Nat) : (pruneTo L i).length ≤ L.length := by
  unfold pruneTo
  exact Nat.le_trans (List.length_filter_le _ _) (by rw [List.length_take]; omega)
/-- The pairs at the start. -/
theorem pairs_start (w h : Int) (kss : List (List Int)) : ∃ L, waitsL w h kss = rows L ∧ Keeps (fun p q => WaysOk w h kss ∧ Waits (wiresAll w.toNat kss) p q) L ∧ L.length ≤ 10000 := by
  by_cases hk : WaysOk w h kss
  · have hb := wiresAll_bounds hk
    refine ⟨pl 100 (Waits (wiresAll w.toNat kss)) (100 * 100), by unfold waitsL; rw [if_pos hk], ?_, pl_len _ _ _⟩
    have e : (fun p q => WaysOk w h kss ∧ Waits (wiresAll w.toNat kss) p q) = Waits (wiresAll w.toNat kss) := by
      funext p q
      exact propext ⟨fun x => x.2, fun x => ⟨hk, x⟩⟩
    rw [e]
    exact keeps_pl (by omega) (fun p q hpq => waits_lt hb.2.1 hpq)
  · refine ⟨[], by unfold waitsL; rw [if_neg hk]; rfl, ⟨(fun x hx => by cases hx), fun S hS p hp => ?_⟩, by simp⟩
    obtain ⟨q, h1, _⟩ := hS p hp
    exact absurd h1.1 hk
theorem round_and {Q : Prop} {R : Nat → Nat → Prop} : Round (fun p q => Q ∧ R p q) ↔ Q ∧ Round R := by
  constructor
  · rintro ⟨S, ⟨p, hp⟩, hS⟩
    obtain ⟨q, h1, _⟩ := hS p hp
    exact ⟨h1.1, S, ⟨p, hp⟩, fun x hx => by obtain ⟨y, h2, h3⟩ := hS x hx; exact ⟨y, h2.2, h3⟩⟩
  · rintro ⟨hq, S, hp, hS⟩
    exact ⟨S, hp, fun x hx => by obtain ⟨y, h2, h3⟩ := hS x hx; exact ⟨y, ⟨hq, h2⟩, h3⟩⟩
def lenOf16 : Value → Nat
  | .slice _ n _ => n
  | _ => 0
set_option maxRecDepth 100000 in
set_option maxHeartbeats 2000000 in
theorem specHasRound_any {A : Option Addr} {n c : Nat} {kss : List (List Int)} {w h : Int} {W : World} (hA : HasLI W A n kss) (hn : n ≤ 16777216) (hlen : ∀ ks ∈ kss, ks.length ≤ 16777216) :
    Calls Tryd.prog 36 #[.int .i64 w, .int .i64 h, .slice A n c] W fun e W' => ∃ b : Bool, e = .returned (.bool b) ∧ (b = true ↔ WaysOk w h kss ∧ Round (Waits (wiresAll w.toNat kss))) ∧ Below W.heap.size W W' := by
  obtain ⟨j0, hj, hy0, hy1, hy2⟩ := info_parts Tryd.infoSlI
  have C := Lib.hid (specWaitsOf_any (c := c) (w := w) (h := h) hA hn hlen)
  obtain ⟨L, hL, hK, hl⟩ := pairs_start w h kss
  rw [hL] at C
  have E : Hid (∀ b : Bool, (b = true ↔ Round (fun p q => WaysOk w h kss ∧ Waits (wiresAll w.toNat kss) p q)) → (b = true ↔ WaysOk w h kss ∧ Round (Waits (wiresAll w.toNat kss)))) := fun b e => e.trans round_and
  obtain ⟨R, hR⟩ : ∃ R, (fun p q => WaysOk w h kss ∧ Waits (wiresAll w.toNat kss) p q) = R := ⟨_, rfl⟩
  rw [hR] at hK E
  have HK := Lib.hid (show Keeps R L ∧ L.length ≤ 10000 from ⟨hK, hl⟩)
  clear hA hlen hL hK hl hR
  go_enter Tryd.func36, Tryd.ntmps36
  go_wp2_with (fail)
  refine C.out.mono ?_
  rintro e w1 ⟨A1, n1, c1, rfl, O1, B1⟩
  have hc1 := O1.cap
  obtain ⟨vs, hv, hp⟩ := inP_of O1.has
  have hln := O1.has.len
  rw [rows_len] at hln
  have HI := Lib.hid (show InP w1 vs L ∧ L.length = n1 from ⟨hp, hln⟩)
  have h10 : n1 ≤ 10000 := by have := HK.out.2; omega
  clear C O1 hp hln
  go_wp2
  go_loopw [7] (fun v wr => ∃ (A' : Option Addr) (m d : Nat) (us : List Value) (M : List (Nat × Nat)), v = .slice A' m d ∧ m ≤ d ∧ m ≤ 10000 ∧ Has wr A' m us ∧ Hid (InP w1 us M ∧ M.length = m ∧ Keeps R M) ∧ Below w1.heap.size w1 wr) (fun v _ => lenOf16 v)
  case atStart => exact ⟨A1, n1, c1, vs, L, rfl, hc1, h10, hv, ⟨HI.out.1, HI.out.2, HK.out.1⟩, Below.refl _ _⟩
  case round =>
    obtain ⟨A2, m, d, us, M, rfl, hmd, hm, H2, HQ, T2⟩ := hrel
    obtain ⟨wo, rfl⟩ : ∃ wo, wo = wr := ⟨_, rfl⟩
    have B3 : Below wo.heap.size wo (wo.alloc (.cells #[] 25)) := (Below.refl _ _).alloc (Nat.le_refl _) _
    have O3 : Own (wo.alloc (.cells #[] 25)) wo.heap.size 25 (some ⟨wo.heap.size, 0, none⟩) 0 0 [] := World.ownsRow_lit wo #[] 0 (Nat.le_refl _) (by unfold maxLen; omega) rfl
    obtain ⟨W3, hW3⟩ : ∃ W3, wo.alloc (.cells #[] 25) = W3 := ⟨_, rfl⟩
    rw [hW3] at B3 O3
    have H3 := H2.bel B3
    have T3 := T2.trans (B3.mono T2.size)
    go_wp2
    obtain ⟨S, hS⟩ : ∃ S, wo.heap.size = S := ⟨_, rfl⟩
    rw [hS] at O3 B3 ⊢
    have hSw : w1.heap.size ≤ S := by have := T2.size; omega
    have HS := Lib.hid hS
    have HW1 := Lib.hid B1
    have O3 : Own W3 S 25 (some ⟨S, 0, none⟩) 0 0 [] := O3
    clear hS hW3
    go_loopw [8, 9] (fun v t wx => ∃ (i k : Nat) (A' : Option Addr) (c' : Nat) (ys : List Value), i ≤ m ∧ t = .int .i64 (i : Int) ∧ v = .slice A' k c' ∧ k ≤ m ∧ Own wx S 25 A' k c' ys ∧ Hid (InP w1 ys (pruneTo M i) ∧ (pruneTo M i).length = k) ∧ Below S wo wx) (fun _ t _ => m - (intOf t).toNat)
    case atStart => exact ⟨0, 0, _, 0, [], by omega, rfl, rfl, by omega, O3, ⟨inP_nil _, rfl⟩, B3⟩
    case round =>
      obtain ⟨i, k, A4, c4, ys, him, rfl, rfl, hkm, O4, HP, B4⟩ := hrel
      obtain ⟨wi, rfl⟩ : ∃ wi, wi = wr := ⟨_, rfl⟩
      have T4 : Below w1.heap.size w1 wi := T2.trans (B4.mono hSw)
      have H4 := H2.below (by rw [HS.out]; exact Nat.le_refl _) B4
      by_cases hlt : i < m
      · have hltB : decide ((i : Int) < (m : Int)) = true := by simp; omega
        obtain ⟨b, o, B, O, dd, x, hAA, hx, hu, hbl, hc0, h2d, hBl, x0, x1⟩ := HQ.out.1.at_ H4 T4 hlt
        go_wp2
        go_loopw [10, 11] (fun g t wy => ∃ (j : Nat), j ≤ m ∧ t = .int .i64 (j : Int) ∧ g = .bool (goesTo M j x.2) ∧ Below wi.heap.size wi wy) (fun _ t _ => m - (intOf t).toNat)
        case atStart => exact ⟨0, by omega, rfl, rfl, Below.refl _ _⟩
        case round =>
          obtain ⟨j, hjm, rfl, rfl, BD⟩ := hrel
          have hSi : S ≤ wi.heap.size := by have := B4.size; rw [← HS.out] at *; omega
          have x1' := (BD.cell (p := ⟨B, O + 1, none⟩) (by show B < wi.heap.size; omega)).trans x1
          have hc0' := (BD.cell (p := ⟨b, o + i, none⟩) hbl).trans hc0
          by_cases hjt : j < m
          · have hjB : decide ((j : Int) < (m : Int)) = true := by simp; omega
            obtain ⟨b', o', B', O', d', y, hA', hy, _, hbl', hcj, h2d', hBl', y0, _⟩ := HQ.out.1.at_ (H4.bel BD) (T4.trans (BD.mono (by omega))) hjt
            rw [hAA] at hA'
            injection hA' with hA'
            injection hA' with q1 q2
            subst q1 q2
            have HG := Lib.hid (goesTo_next (q := x.2) hy)
            obtain ⟨g, hg⟩ : ∃ g, goesTo M j x.2 = g := ⟨_, rfl⟩
            rw [hg] at HG ⊢
            subst hAA
            have eX : ((y.1 : Int) == (x.2 : Int)) = (y.1 == x.2) := by rw [Bool.eq_iff_iff, beq_iff_eq, beq_iff_eq]; omega
            have i0 : (0 : Int) ≤ (i : Int) := by omega
            have i1 : (i : Int) < (m : Int) := by omega
            have j0' : (0 : Int) ≤ (j : Int) := by omega
            have j1 : (j : Int) < (m : Int) := by omega
            clear hy hg
            cases g
            · go_wp2
              go_quiet (fail)
              go_wp2
              go_roundw
              case rel => exact ⟨j + 1, by omega, by go_num, by rw [HG.out, Bool.false_or, ← eX], BD.trans (below_drewN _ _)⟩
              case measure => simp [intOf]; omega
            · go_wp2
              go_quiet (fail)
              go_wp2
              go_roundw
              case rel => exact ⟨j + 1, by omega, by go_num, by rw [HG.out, Bool.true_or], BD.trans (below_drewN _ _)⟩
              case measure => simp [intOf]; omega
          · have hjB : decide ((j : Int) < (m : Int)) = false := by simp; omega
            obtain rfl : j = m := by omega
            have eM : j = M.length := HQ.out.2.1.symm
            have HX := Lib.hid hx
            have HU := Lib.hid hu
            obtain ⟨g, hg⟩ : ∃ g, goesTo M j x.2 = g := ⟨_, rfl⟩
            have hg2 : goesTo M M.length x.2 = g := by rw [← eM]; exact hg
            rw [hg]
            have O5 := O4.bel BD
            have B5 := B4.trans (BD.mono hSi)
            have s5 := BD.size
            subst hAA
            have i0 : (0 : Int) ≤ (i : Int) := by omega
            have i1 : (i : Int) < (j : Int) := by omega
            cases g
            · have HN := Lib.hid (pruneTo_no hx hg2)
              clear hg hg2 hx hu
              go_wp2
              go_roundw
              case rel => exact ⟨i + 1, k, A4, c4, ys, by omega, by go_num, rfl, hkm, O5, by rw [HN.out]; exact HP, B5⟩
              case measure => simp [intOf]; omega
            · have HN := Lib.hid (pruneTo_yes hx hg2)
              have hki : k ≤ j := hkm
              have HK1 : Hid (k + 1 ≤ j) := by
                have := pruneTo_len M (i + 1)
                rw [HN.out, List.length_append, HP.out.2] at this
                show k + 1 ≤ j
                rw [eM]
                exact this
              clear hg hg2 hx hu eM
              go_wp2_with (at_builtin; refine wpList_apps _ rfl (.tmp 46) (.tmp 51) 33 rfl S 25 j0 (.slice none 0 0) 24 Tryd.underlying33 hj hy0 hy1 hy2 rfl A4 k c4 ys rfl O5 1 1 #[.slice (some ⟨B, O, none⟩) 2 dd] rfl rfl (by simp [Value.oneCell']) (by decide) (by omega) (by decide) (by omega) ?_; intro g3 c3 w3 O6 G6 B6 _)
              go_roundw
              case rel => exact ⟨i + 1, k + 1, _, _, _, by omega, by go_num, rfl, HK1.out, O6, ⟨by rw [HN.out]; exact HP.out.1.snoc HQ.out.1 HU.out HX.out, by rw [HN.out, List.length_append, HP.out.2]; rfl⟩, B5.trans B6⟩
              case measure => simp [intOf]; omega
      · have hltB : decide ((i : Int) < (m : Int)) = false := by simp; omega
        obtain rfl : i = m := by omega
        have eP : pruneTo M i = prune M := by rw [← HQ.out.2.1, pruneTo_all]
        have HP2 : Hid (InP w1 ys (prune M) ∧ (prune M).length = k) := by rw [← eP]; exact HP
        have TW : Below W.heap.size W wi := bel_trans HW1.out T4
        clear HP eP
        by_cases hki : k = i
        · subst hki
          have HE := Lib.hid (keeps_end HQ.out.2.2 (by rw [HP2.out.2, HQ.out.2.1]))
          have HE2 := Lib.hid (E.out (decide ((k : Int) > 0)) (by rw [← HE.out, HQ.out.2.1]; simp))
          have hb2 : ((k : Int) == (k : Int)) = true := by simp
          clear HE
          go_wp2
          go_ret
          exact ⟨_, rfl, by simpa using HE2.out, TW⟩
        · have hb2 : ((k : Int) == (i : Int)) = false := by simp; omega
          have hcap := O4.cap
          go_wp2
          go_roundw
          case rel => exact ⟨A4, k, c4, ys, prune M, rfl, hcap, by omega, O4.has, ⟨HP2.out.1, HP2.out.2, keeps_prune HQ.out.2.2⟩, T4⟩
          case measure => simp [lenOf16]; omega
end Go.Proofs.YthcfjnedpffbbaaDoor
