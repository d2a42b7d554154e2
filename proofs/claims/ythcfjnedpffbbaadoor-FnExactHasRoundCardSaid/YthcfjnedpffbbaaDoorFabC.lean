/-
  Chapter 16's model, WaitsOf: what is proved here is what it returns, and that it writes nothing that was there. Condition: lengths up to 2^24.
-/
import Derived.Test.YthcfjnedpffbbaaDoorFabB
import Derived.Test.YthcfjnedpffbbaaDoorBools
namespace Go.Proofs.YthcfjnedpffbbaaDoor
open Go.RowKit

/- Marks in a slice, as a function. -/
def tabL (N : Nat) (f : Nat → Bool) : List Bool := (List.range N).map f
theorem tabL_len (N : Nat) (f : Nat → Bool) : (tabL N f).length = N := by simp [tabL]
theorem tabL_at {N : Nat} (f : Nat → Bool) {i : Nat} (h : i < N) : (tabL N f).getD i false = f i := by
  rw [List.getD_eq_getElem?_getD]; simp [tabL, h]
theorem tabL_set {N k : Nat} (f : Nat → Bool) (b : Bool) : (tabL N f).set k b = tabL N (upd f k b) := by
  apply List.ext_getElem?
  intro i
  rw [List.getElem?_set]
  by_cases hi : i < N
  · have h1 : (tabL N f)[i]? = some (f i) := by simp [tabL, hi]
    have h2 : (tabL N (upd f k b))[i]? = some (upd f k b i) := by simp [tabL, hi]
    rw [h1, h2, tabL_len]
    by_cases e : k = i
    · subst e; rw [if_pos rfl, if_pos hi, upd_self]
    · rw [if_neg e, upd_ne _ _ (fun h => e h.symm)]
  · rw [List.getElem?_eq_none (by rw [tabL_len]; omega), List.getElem?_eq_none (by rw [tabL_len]; omega), tabL_len]
    split
    · rw [if_neg (by omega)]
    · rfl
theorem tabL_false (N : Nat) : List.replicate N false = tabL N (fun _ => false) := by simp [tabL, List.map_const']
theorem own_mark {w : World} {lo n c g : Nat} {e : TypeId} {f : Nat → Bool} (h : Own w lo e (some ⟨g, 0, none⟩) n c (bools (tabL n f))) {i : Nat} (hi : i < n) :
    w.cell? ⟨g, i, none⟩ = some (.bool (f i)) ∧ w.frozen? ⟨g, i, none⟩ = false := by
  obtain ⟨u, hu, c1, f1⟩ := h.at_ hi
  rw [bools_get _ _ (by rw [tabL_len]; exact hi), tabL_at f hi] at hu
  injection hu with hu
  rw [hu]
  exact ⟨c1, f1⟩
theorem Own.markAt {w : World} {lo n c g : Nat} {e : TypeId} {f : Nat → Bool} (h : Own w lo e (some ⟨g, 0, none⟩) n c (bools (tabL n f))) (k : Nat) (b : Bool) :
    Own (w.setCell ⟨g, k, none⟩ (.bool b)) lo e (some ⟨g, 0, none⟩) n c (bools (tabL n (upd f k b))) := by
  have := h.set_ k (.bool b)
  rwa [bools_set, tabL_set] at this
theorem one_grown16 (w : World) (B k : Nat) (v : Value) : w.grownBy (w.setCell ⟨B, k, none⟩ v) (some B) :=
  ⟨rfl, rfl, rfl, by simp, fun i _ hi => heap_setCell_other w ⟨B, k, none⟩ i v (fun e => hi (by simp [e]))⟩
theorem Own.off {w : World} {lo n c g : Nat} {e : TypeId} {A : Option Addr} {xs : List Value} (h : Own w lo e A n c xs) (hg : g < lo) (k : Nat) (v : Value) : Own (w.setCell ⟨g, k, none⟩ v) lo e A n c xs :=
  h.grown (one_grown16 w g k v) (fun a hA e => by
    subst hA
    have := h.block.1
    injection e with e
    omega)
theorem grown_of_alloc16 {w w' : World} {o : Obj} {row : Option Nat} (h : (w.alloc o).grownBy w' row) : w.grownBy w' row :=
  ⟨h.os, h.tape, h.output, Nat.le_trans (by simp) h.size, fun k hk hne => (h.block k (by simp; omega) hne).trans (heap_alloc_old w o hk)⟩
theorem own_types {W : World} {lo lo' n c n' c' g : Nat} {A : Option Addr} {e e' : TypeId} {xs ys : List Value} (h : Own W lo e A n c xs) (k : Own W lo' e' (some ⟨g, 0, none⟩) n' c' ys) (he : e' ≠ e) : A.map (·.block) ≠ some g := by
  rcases k.2 with ⟨hv, _⟩ | ⟨g2, cap2, cur2, hv2, _, hgb2, _⟩
  · cases hv
  injection hv2 with hA2 _ _
  injection hA2 with hA2
  injection hA2 with hA2 _ _
  subst hA2
  intro e1
  cases A with
  | none => cases e1
  | some a =>
    have e2 : a.block = g := by simpa using e1
    rcases h.2 with ⟨hv, _⟩ | ⟨g3, cap, cur, hv, _, hgb, _⟩
    · cases hv
    · injection hv with hA _ _
      injection hA with hA
      subst hA
      have : g3 = g := e2
      subst this
      rw [hgb2] at hgb
      injection hgb with hgb
      injection hgb with _ ht2
      exact he ht2
theorem nil_inner {w : World} {lo H g i : Nat} (h : OwnVI w lo (some ⟨H, 0, none⟩) 0 0 [] []) (hg : H < g) (hi : InL (some ⟨H, 0, none⟩) [] i) : i ≠ g := by
  have _ := h.1
  rcases hi with hi | ⟨v, hv, _⟩
  · have : H = i := by simpa using hi
    omega
  · cases hv
/- Which wires wait for which, as a list of pairs. -/
open Classical in
noncomputable def waitsL (w h : Int) (kss : List (List Int)) : List (List Int) := if WaysOk w h kss then rows (pl 100 (Waits (wiresAll w.toNat kss)) (100 * 100)) else []
theorem wiresAll_len (w : Nat) (kss : List (List Int)) : (wiresAll w kss).length = kss.length := by simp [wiresAll]
theorem wiresAll_bounds {w h : Int} {kss : List (List Int)} (k : WaysOk w h kss) : (∀ us ∈ wiresAll w.toNat kss, us.length ≤ 29) ∧ (∀ us ∈ wiresAll w.toNat kss, ∀ u ∈ us, u < 100) ∧ (∀ us ∈ wiresAll w.toNat kss, ∀ u ∈ us, (u : Int) < 4 * (w * h)) := by
  have hm : w * h ≤ 25 := by
    have := Int.mul_le_mul k.1.1.2 k.1.2.2 (by have := k.1.2.1; omega) (by omega)
    omega
  refine ⟨fun us hu => ?_, fun us hu u h1 => ?_, fun us hu u h1 => ?_⟩
  · obtain ⟨ks, hk, rfl⟩ := List.mem_map.1 hu
    have := (k.2.2 ks hk).1.2
    rw [wiresN_len]; omega
  · obtain ⟨ks, hk, rfl⟩ := List.mem_map.1 hu
    have := wires_lt (k.2.2 ks hk) u h1
    omega
  · obtain ⟨ks, hk, rfl⟩ := List.mem_map.1 hu
    exact wires_lt (k.2.2 ks hk) u h1
theorem div_of {p q N : Nat} (h : q < N) : (p * N + q) / N = p ∧ (p * N + q) % N = q := by
  rw [Nat.add_comm, Nat.mul_comm, Nat.add_mul_div_left _ _ (by omega), Nat.add_mul_mod_self_left, Nat.div_eq_of_lt h, Nat.mod_eq_of_lt h]
  omega
set_option maxRecDepth 100000 in
set_option maxHeartbeats 4000000 in
theorem specWaitsOf_any {A : Option Addr} {n c : Nat} {kss : List (List Int)} {w h : Int} {W : World} (hA : HasLI W A n kss) (hn : n ≤ 16777216) (hlen : ∀ ks ∈ kss, ks.length ≤ 16777216) :
    Calls Tryd.prog 30 #[.int .i64 w, .int .i64 h, .slice A n c] W fun e W' => ∃ A' n' c', e = .returned (.slice A' n' c') ∧ OwnLI W' W.heap.size A' n' c' (waitsL w h kss) ∧ Below W.heap.size W W' := by
  obtain ⟨j0, hj, hy0, hy1, hy2⟩ := info_parts Tryd.infoSlI
  obtain ⟨i0, hi, hz0, hz1, hz2⟩ := info_parts Tryd.infoBool
  have L0 : OwnVI (W.alloc (.cells #[] 25)) W.heap.size (some ⟨W.heap.size, 0, none⟩) 0 0 [] [] := ownVI_lit W _ (Nat.le_refl _)
  obtain ⟨W1, hW1⟩ : ∃ W1, W.alloc (.cells #[] 25) = W1 := ⟨_, rfl⟩
  rw [hW1] at L0
  have B1 : Below W.heap.size W W1 := hW1 ▸ below_lit W _
  by_cases hk : WaysOk w h kss
  rotate_left
  · have C := Lib.hid (l16Ways_b (c := c) (hA.bel B1) hn hlen (decide_eq_false hk))
    have e1 : waitsL w h kss = [] := by unfold waitsL; rw [if_neg hk]
    rw [e1]
    clear hk e1 hlen
    go_enter Tryd.func30, Tryd.ntmps30
    go_wp2_with (fail)
    refine C.out.mono ?_
    rintro e w2 ⟨rfl, B2⟩
    go_wp2
    go_ret
    exact ⟨_, _, _, rfl, ⟨_, L0.bel B2⟩, bel_trans B1 B2⟩
  have C := Lib.hid (l16Ways_b (c := c) (hA.bel B1) hn hlen (decide_eq_true hk))
  have hb := wiresAll_bounds hk
  have HK := Lib.hid hk
  have hwh := hk.1
  obtain ⟨uss, hus⟩ : ∃ uss, wiresAll w.toNat kss = uss := ⟨_, rfl⟩
  have HUS := Lib.hid hus
  have e1 : waitsL w h kss = rows (pl 100 (Waits uss) (100 * 100)) := by unfold waitsL; rw [if_pos hk, hus]
  rw [e1]
  rw [hus] at hb
  have HL := Lib.hid hA.len
  obtain ⟨⟨w1, w5⟩, h1, h5⟩ := hwh
  obtain ⟨W0, rfl⟩ : ∃ n : Nat, w = n := ⟨w.toNat, by omega⟩
  obtain ⟨H0, rfl⟩ : ∃ n : Nat, h = n := ⟨h.toNat, by omega⟩
  obtain ⟨N, hN⟩ : ∃ N, 4 * (W0 * H0) = N := ⟨_, rfl⟩
  have hWH : W0 * H0 ≤ 5 * 5 := Nat.mul_le_mul (by omega) (by omega)
  have hWH1 : 1 * 1 ≤ W0 * H0 := Nat.mul_le_mul (by omega) (by omega)
  have hNb : 4 ≤ N ∧ N ≤ 100 := by omega
  have eN : 4 * (W0 : Int) * (H0 : Int) = (N : Int) := by rw [← hN, Int.mul_assoc]; simp
  obtain ⟨M, hM⟩ : ∃ M, N * N = M := ⟨_, rfl⟩
  have eM : (N : Int) * (N : Int) = (M : Int) := by rw [← hM]; simp
  have hM2 : M ≤ 100 * 100 := by rw [← hM]; exact Nat.mul_le_mul hNb.2 hNb.2
  have hlt : ∀ us ∈ uss, ∀ u ∈ us, u < N := fun us hu u h1 => by
    have h2 : (u : Int) < 4 * ((W0 : Int) * (H0 : Int)) := hb.2.2 us hu u h1
    have h3 : u < 4 * (W0 * H0) := by exact_mod_cast h2
    omega
  have HPLS : Hid (pl N (Waits uss) M = pl 100 (Waits uss) (100 * 100)) := by
    show _ = _
    rw [← hM]
    exact pl_same (by omega) (by omega) (fun p q hpq => waits_lt hlt hpq) (fun p q hpq => waits_lt hb.2.1 hpq)
  obtain ⟨R, hRR⟩ : ∃ R, Waits uss = R := ⟨_, rfl⟩
  rw [hRR] at HPLS ⊢
  have HRR := Lib.hid hRR
  clear hRR
  have HLT := Lib.hid hlt
  have HB := Lib.hid hb
  have HMN := Lib.hid hM
  have HNN := Lib.hid hN
  have hN1 : 1 ≤ N := by omega
  have hN2 : N ≤ 100 := by omega
  have hM1 : M ≤ 10000 := by omega
  clear hk e1 hlen hus hb hlt hWH hWH1 hN hM hNb hM2
  go_enter Tryd.func30, Tryd.ntmps30
  go_wp2_with (fail)
  refine C.out.mono ?_
  rintro e w2 ⟨rfl, B2⟩
  have T2 := bel_trans B1 B2
  have L2 := L0.bel B2
  have s2 := T2.size
  clear C B1 B2 L0
  go_wp2_with (at_make; refine wpList_make_full _ rfl _ _ 38 rfl W.heap.size 4 i0 (.bool false) 1 Tryd.underlying38 hi hz0 hz1 .i64 .i64 _ _ M rfl rfl (by omega) (by omega) (by rw [hz2]; omega) (by unfold maxLen; omega) s2 ?_; intro w3 hown hgrow)
  rw [made_bools M, tabL_false] at hown
  have B3 : Below w2.heap.size w2 w3 := below_of_grown hgrow (Nat.le_refl _) (fun k hk => by cases hk)
  have T3 := bel_trans T2 B3
  have L3 := L2.bel B3
  obtain ⟨g, hg⟩ : ∃ g, w2.heap.size = g := ⟨_, rfl⟩
  have hgl : W.heap.size < g := by have := L2.1.block; have : W.heap.size < w2.heap.size := this.2; omega
  rw [hg] at hown ⊢
  clear hg hgrow B3 L2 T2 hW1
  have HR0 : Hid (∀ p q, p < N → q < N → ((fun _ => false : Nat → Bool) (p * N + q) = true ↔ WaitsTo uss 0 0 p q)) := fun p q _ _ => ⟨(fun h => by cases h), fun h => absurd h (waitsTo_zero uss p q)⟩
  obtain ⟨F0, hF0⟩ : ∃ F0 : Nat → Bool, (fun _ => false) = F0 := ⟨_, rfl⟩
  rw [hF0] at hown HR0
  clear hF0
  go_loopw [10] (fun t wr => ∃ (i : Nat) (f : Nat → Bool), i ≤ n ∧ t = .int .i64 (i : Int) ∧ Own wr W.heap.size 4 (some ⟨g, 0, none⟩) M M (bools (tabL M f)) ∧ OwnVI wr W.heap.size (some ⟨W.heap.size, 0, none⟩) 0 0 [] [] ∧ Hid (∀ p q, p < N → q < N → (f (p * N + q) = true ↔ WaitsTo uss i 0 p q)) ∧ Below W.heap.size W wr) (fun t _ => n - (intOf t).toNat)
  case atStart => exact ⟨0, F0, by omega, rfl, hown, L3, HR0, T3⟩
  case round =>
    obtain ⟨i, f, hin, rfl, K, KR, HR, T⟩ := hrel
    by_cases hlt : i < n
    · have hltB : decide ((i : Int) < (n : Int)) = true := by simp; omega
      obtain ⟨b, o, X, m, d, ks, rfl, hbl, hx, hc0, hmd, hH⟩ := hA.at_ hlt
      have hc := (T.cell (p := ⟨b, o + i, none⟩) hbl).trans hc0
      have hks : WayOk (W0 : Int) (H0 : Int) ks := HK.out.2.2 ks (List.mem_of_getElem? hx)
      have hus : uss[i]? = some (wiresN W0 ks) := by rw [← HUS.out]; unfold wiresAll; rw [List.getElem?_map, hx]; rfl
      obtain ⟨us, hu⟩ : ∃ us, wiresN W0 ks = us := ⟨_, rfl⟩
      rw [hu] at hus
      have C5 := l16Wires_any (c := d) (hH.bel T) hks
      rw [show (W0 : Int).toNat = W0 from rfl, hu] at C5
      have C5 := Lib.hid C5
      have hmem := List.mem_of_getElem? hus
      have eU : uss.getD i [] = us := by rw [List.getD_eq_getElem?_getD, hus]; rfl
      have HX := Lib.hid (show uss.getD i [] = us ∧ (∀ u ∈ us, u < N) ∧ i < uss.length ∧ us.length ≤ 29 from ⟨eU, HLT.out us hmem, (List.getElem?_eq_some_iff.1 hus).1, HB.out.1 us hmem⟩)
      have HR1 : Hid (∀ p q, p < N → q < N → (f (p * N + q) = true ↔ WaitsTo uss i 1 p q)) := fun p q hp hq => by rw [HR.out p q hp hq, waitsTo_one]
      have k0 : (0 : Int) ≤ (i : Int) := by omega
      clear hus hmem eU hH hx hks hu
      go_wp2_with (fail)
      refine C5.out.mono ?_
      rintro e w5 ⟨A5, n5, c5, rfl, O5, B5⟩
      have hm : n5 = us.length := by have := O5.has.len; rw [nats_len] at this; exact this.symm
      have HM := Lib.hid hm
      have hm29 : n5 ≤ 29 := by have := HX.out.2.2.2; omega
      have K5 := K.bel B5
      have KR5 := KR.bel B5
      have T5 := bel_trans T B5
      obtain ⟨S, hS⟩ : ∃ S, wr.heap.size = S := ⟨_, rfl⟩
      have hgS : g < S := by have := K.block; have : g < wr.heap.size := this.2; omega
      have hWS : W.heap.size < S := by omega
      rw [hS] at O5
      clear hm hS C5 K KR T B5
      go_wp2
      go_loopw [12] (fun t wx => ∃ (k : Nat) (f' : Nat → Bool), 1 ≤ k ∧ (k ≤ n5 ∨ k = 1) ∧ t = .int .i64 (k : Int) ∧ Own wx W.heap.size 4 (some ⟨g, 0, none⟩) M M (bools (tabL M f')) ∧ OwnVI wx W.heap.size (some ⟨W.heap.size, 0, none⟩) 0 0 [] [] ∧ Own wx S 3 A5 n5 c5 (ints .i64 (nats us)) ∧ Hid (∀ p q, p < N → q < N → (f' (p * N + q) = true ↔ WaitsTo uss i k p q)) ∧ Below W.heap.size W wx) (fun t _ => n5 - (intOf t).toNat)
      case atStart => exact ⟨1, f, by omega, Or.inr rfl, rfl, K5, KR5, O5, HR1, T5⟩
      case round =>
        obtain ⟨k, f', hk1, hk2, rfl, K', KR', O', HR', T'⟩ := hrel
        by_cases hkm : k < n5
        · have hkB : decide ((k : Int) < (n5 : Int)) = true := by simp; omega
          obtain ⟨b1, o1, z1, hAA, hb1, hz1, c1⟩ := O'.has.at_ (show k - 1 < n5 by omega)
          subst hAA
          obtain ⟨b1', o1', z2, hA', hb2, hz2, c2⟩ := O'.has.at_ hkm
          injection hA' with hA'; injection hA' with q1 q2; subst q1 q2
          obtain rfl := nats_at hz1
          obtain rfl := nats_at hz2
          have hmemu : ∀ j, j < n5 → us.getD j 0 ∈ us := fun j hj => by
            rw [List.getD_eq_getElem?_getD, List.getElem?_eq_getElem (by have := HM.out; omega)]; exact List.getElem_mem _
          have p100 := HX.out.2.1 _ (hmemu (k - 1) (by omega))
          have q100 := HX.out.2.1 _ (hmemu k hkm)
          have HR2 : Hid (∀ p q, p < N → q < N → (upd f' (us.getD (k - 1) 0 * N + us.getD k 0) true (p * N + q) = true ↔ WaitsTo uss i (k + 1) p q)) := by
            intro p q hp hq
            have e1 := HX.out.1
            rw [waitsTo_step (show 0 < k by omega), e1]
            by_cases hpq : us.getD (k - 1) 0 = p ∧ us.getD k 0 = q
            · obtain ⟨rfl, rfl⟩ := hpq
              rw [upd_self]
              exact ⟨fun _ => Or.inr ⟨rfl, rfl⟩, fun _ => rfl⟩
            · have hne : p * N + q ≠ us.getD (k - 1) 0 * N + us.getD k 0 := fun he => by
                have d1 := div_of (p := p) hq
                have d2 := div_of (p := us.getD (k - 1) 0) q100
                rw [he, d2.1, d2.2] at d1
                exact hpq d1
              rw [upd_ne _ _ hne, HR'.out p q hp hq]
              exact ⟨Or.inl, fun hh => hh.resolve_right hpq⟩
          generalize us.getD (k - 1) 0 = pp at *
          generalize us.getD k 0 = qq at *
          obtain ⟨V, hV⟩ : ∃ V, pp * N = V := ⟨_, rfl⟩
          have eV : (pp : Int) * (N : Int) = (V : Int) := by rw [← hV]; simp
          have hVb : V + qq < M := by
            have h1 : (pp + 1) * N ≤ N * N := Nat.mul_le_mul_right N p100
            rw [Nat.add_mul, HMN.out, hV] at h1
            omega
          rw [hV] at HR2
          have t1 : IntKind.i64.wrap ((k : Int) - 1) = (k : Int) - 1 := IntWalk.i64_in _ (by omega)
          have t2 : IntKind.i64.wrap ((pp : Int) * (N : Int)) = (V : Int) := by rw [eV]; exact IntWalk.i64_in _ (by omega)
          have t3 : IntKind.i64.wrap ((V : Int) + (qq : Int)) = (V : Int) + (qq : Int) := IntWalk.i64_in _ (by omega)
          have n1 : ((k : Int) - 1).toNat = k - 1 := by omega
          have n2 : ((V : Int) + (qq : Int)).toNat = V + qq := by omega
          have g0 : (0 : Int) ≤ (k : Int) - 1 := by omega
          have g1 : (k : Int) - 1 < (n5 : Int) := by omega
          have g2 : (0 : Int) ≤ (k : Int) := by omega
          have g3 : (1 : Int) ≤ (k : Int) := by omega
          have g4 : 1 ≤ k := hk1
          have g5 : (0 : Int) ≤ (V : Int) + (qq : Int) := by omega
          have g6 : (V : Int) + (qq : Int) < (M : Int) := by omega
          obtain ⟨cg, fg⟩ := own_mark K' hVb
          have HKK := Lib.hid (K'.markAt (V + qq) true)
          have HKR := Lib.hid (KR'.heapEq (w' := wr.setCell ⟨g, V + qq, none⟩ (.bool true)) (fun i hi => heap_setCell_other wr ⟨g, V + qq, none⟩ i _ (nil_inner KR' hgl hi)))
          have HT := Lib.hid (T'.setCell (p := ⟨g, V + qq, none⟩) (show W.heap.size ≤ g by omega) (.bool true))
          have HO := Lib.hid (O'.off hgS (V + qq) (.bool true))
          clear hz1 hz2 hmemu K' KR' T' HR' O'
          go_wp2
          go_region
          all_goals
            have O9 := World.ownsRow.drew HKK.out
            have O8 := World.ownsRow.drew HO.out
            have O7 := HKR.out.bel ((Below.refl _ _).drew)
            have T7 := HT.out.drew
            go_wp2
            go_roundw
            case rel => exact ⟨k + 1, _, by omega, Or.inl (by omega), by go_num, O9, O7, O8, HR2, T7⟩
            case measure => simp [intOf]; omega
        · have hkB : decide ((k : Int) < (n5 : Int)) = false := by simp; omega
          have HR3 : Hid (∀ p q, p < N → q < N → (f' (p * N + q) = true ↔ WaitsTo uss (i + 1) 0 p q)) := fun p q hp hq => by
            have h1 := HX.out
            have h2 := HM.out
            rw [HR'.out p q hp hq]
            exact (waitsTo_next h1.2.2.1 (m := k) (by rw [h1.1]; omega) (by rw [h1.1]; omega)).symm
          go_wp2
          go_roundw
          case rel => exact ⟨i + 1, f', by omega, by go_num, K', KR', HR3, T'⟩
          case measure => simp [intOf]; omega
    · have hltB : decide ((i : Int) < (n : Int)) = false := by simp; omega
      obtain rfl : i = n := by omega
      have HFR : Hid (∀ p q, p < N → q < N → (f (p * N + q) = true ↔ R p q)) := fun p q hp hq => by
        have e1 : uss.length = i := by rw [← HUS.out, wiresAll_len]; exact HL.out
        rw [HR.out p q hp hq, ← HRR.out, ← e1, waitsTo_all]
      clear HR
      go_wp2
      go_loopw [7, 13] (fun v t wx => ∃ (k kk : Nat) (A' : Option Addr) (c' : Nat), k ≤ M ∧ t = .int .i64 (k : Int) ∧ v = .slice A' kk c' ∧ OwnLI wx W.heap.size A' kk c' (rows (pl N R k)) ∧ Own wx W.heap.size 4 (some ⟨g, 0, none⟩) M M (bools (tabL M f)) ∧ Below W.heap.size W wx) (fun _ t _ => M - (intOf t).toNat)
      case atStart => exact ⟨0, 0, _, 0, by omega, rfl, rfl, by rw [pl_zero]; exact ⟨_, KR⟩, K, T⟩
      case round =>
        obtain ⟨k, kk, A3, c3, hkM, rfl, rfl, ⟨vs, L3'⟩, K3, T3'⟩ := hrel
        have hge := T3'.size
        by_cases hkt : k < M
        · have hqB : decide ((k : Int) < (M : Int)) = true := by simp; omega
          obtain ⟨cg, fg⟩ := own_mark K3 hkt
          have hd1 : k / N < N := Nat.div_lt_of_lt_mul (by rw [HMN.out]; exact hkt)
          have hd2 : k % N < N := Nat.mod_lt _ (by omega)
          have hpq := HFR.out (k / N) (k % N) hd1 hd2
          rw [show k / N * N + k % N = k by rw [Nat.mul_comm]; exact Nat.div_add_mod k N] at hpq
          have hkk : kk ≤ 10000 := by
            have h1 := L3'.has.len
            rw [rows_len] at h1
            have h2 := pl_len N R k
            omega
          obtain ⟨bb, hbb⟩ : ∃ bb, f k = bb := ⟨_, rfl⟩
          rw [hbb] at hpq cg
          have k0 : (0 : Int) ≤ (k : Int) := by omega
          have k1 : (k : Int) < (M : Int) := by omega
          have eq1 : (k : Int) / (N : Int) = ((k / N : Nat) : Int) := (Int.natCast_ediv k N).symm
          have er1 : (k : Int) % (N : Int) = ((k % N : Nat) : Int) := (Int.natCast_emod k N).symm
          cases bb
          · have HPL : Hid (pl N R (k + 1) = pl N R k) := pl_no (fun hh => absurd (hpq.2 hh) (by decide))
            clear hpq hbb eq1 er1
            go_wp2
            go_roundw
            case rel => exact ⟨k + 1, kk, A3, c3, by omega, by go_num, rfl, by rw [HPL.out]; exact ⟨vs, L3'⟩, K3, T3'⟩
            case measure => simp [intOf]; omega
          · have HPL : Hid (rows (pl N R (k + 1)) = rows (pl N R k) ++ [[((k / N : Nat) : Int), ((k % N : Nat) : Int)]]) := by
              show _ = _
              rw [pl_yes (hpq.1 rfl), rows_snoc]
            have dq : k / N ≤ 10000 := by omega
            have dr : k % N ≤ 10000 := by omega
            clear hpq hbb
            have et1 : ((k : Int)).tdiv (N : Int) = ((k / N : Nat) : Int) := by rw [Int.tdiv_eq_ediv_of_nonneg k0]; exact eq1
            have et2 : ((k : Int)).tmod (N : Int) = ((k % N : Nat) : Int) := by rw [Int.tmod_eq_emod_of_nonneg k0]; exact er1
            generalize k / N = dp at *
            generalize k % N = dm at *
            have tw1 : IntKind.i64.wrap (dp : Int) = (dp : Int) := IntWalk.i64_in _ (by omega)
            have tw2 : IntKind.i64.wrap (dm : Int) = (dm : Int) := IntWalk.i64_in _ (by omega)
            have BX : Below wr.heap.size wr (wr.alloc (.cells #[.int .i64 (dp : Int), .int .i64 (dm : Int)] 3)) := (Below.refl _ _).alloc (Nat.le_refl _) _
            have OX : Own (wr.alloc (.cells #[.int .i64 (dp : Int), .int .i64 (dm : Int)] 3)) wr.heap.size 3 (some ⟨wr.heap.size, 0, none⟩) 2 2 (ints .i64 [(dp : Int), (dm : Int)]) := World.ownsRow_lit wr #[.int .i64 (dp : Int), .int .i64 (dm : Int)] 2 (Nat.le_refl _) (by unfold maxLen; omega) rfl
            have L4 := L3'.bel BX
            have B4 := T3'.trans (BX.mono hge)
            have s4 := BX.size
            have K4 := K3.bel BX
            have SN := Lib.hid (L4.snocV L3' s4 hge OX)
            obtain ⟨W4, hW4⟩ : ∃ W4, wr.alloc (.cells #[.int .i64 (dp : Int), .int .i64 (dm : Int)] 3) = W4 := ⟨_, rfl⟩
            rw [hW4] at BX OX L4 B4 s4 SN K4
            have O6 : ((W4.alloc (.cells #[Value.slice (some ⟨wr.heap.size, 0, none⟩) 2 2] 25)).drew).ownsRow W.heap.size 25 1 (.slice A3 kk c3) kk vs := World.ownsRow.drew (World.ownsRow.alloc L4.1 _)
            have N6 := Lib.hid (World.news_of_block (w := (W4.alloc (.cells #[Value.slice (some ⟨wr.heap.size, 0, none⟩) 2 2] 25)).drew) (B := W4.heap.size) (cs := #[Value.slice (some ⟨wr.heap.size, 0, none⟩) 2 2]) (t := 25) (fr := (0, 0)) (heap_alloc_new W4 _))
            have Z6 : W.heap.size ≤ ((W4.alloc (.cells #[Value.slice (some ⟨wr.heap.size, 0, none⟩) 2 2] 25)).drew).heap.size := by simp; omega
            have nz : N ≠ 0 := by omega
            have nz2 : ((N : Int) == 0) = false := by simp; omega
            go_wp2
            go_region_law (first | ((with_reducible refine step_append_lies _ rfl (.tmp 72) (.tmp 80) 33 rfl W.heap.size 25 j0 (.slice none 0 0) 1 24 Tryd.underlying33 hj hy0 hy1 hy2 ?c1 ?c2 (.slice A3 kk c3) kk vs rfl O6 ⟨W4.heap.size, 0, none⟩ 1 1 (#[Value.slice (some ⟨wr.heap.size, 0, none⟩) 2 2] : Array Value).toList rfl ?c3 N6.out ?c4 ?c5 ?c6 ?c7 Z6 _ rfl ?_); (case c1 => rfl); (case c2 => decide); (case c3 => rfl); (case c4 => simp [Value.oneCell']); (case c5 => decide); (case c6 => unfold maxLen; omega); (case c7 => omega); intro g4 c4 w4 O4 G4 hat4 _))
            all_goals
              have G5 := grown_of_alloc16 (show (W4.alloc (.cells #[Value.slice (some ⟨wr.heap.size, 0, none⟩) 2 2] 25)).grownBy w4 _ from ⟨G4.os, G4.tape, G4.output, G4.size, G4.block⟩)
              have e5 : (Value.slice A3 kk c3).ownBlock = A3.map (·.block) := by cases A3 <;> rfl
              rw [e5] at G5 hat4
              have hat5 : A3.map (·.block) = some g4 ∨ W4.heap.size ≤ g4 := by
                rcases hat4 with h4 | h4
                · exact .inl h4
                · right; rw [h4]; simp
              have OVn := SN.out g4 c4 w4 O4 G5 hat5
              have B6 : Below W.heap.size W w4 := ((B4.alloc (by omega) _).drew).trans (below_of_grown G4 Z6 (fun g hg => (World.ownsRow.lt O6 g hg).1))
              have K6 : Own w4 W.heap.size 4 (some ⟨g, 0, none⟩) M M (bools (tabL M f)) := K4.grown G5 (fun ad hA e => by
                injection hA with hA
                subst hA
                exact own_types L4.1 K4 (by decide) e.symm)
              clear O4 G4 hat4 O6 OX L4 G5 hat5
              go_wp2
              go_roundw
              case rel => exact ⟨k + 1, kk + 1, _, _, by omega, by go_num, rfl, by rw [HPL.out]; exact ⟨_, OVn⟩, K6, B6⟩
              case measure => simp [intOf]; omega
        · have hqB : decide ((k : Int) < (M : Int)) = false := by simp; omega
          obtain rfl : k = M := by omega
          rw [HPLS.out] at L3'
          go_wp2
          go_ret
          exact ⟨_, _, _, rfl, ⟨vs, L3'⟩, T3'⟩
end Go.Proofs.YthcfjnedpffbbaaDoor
