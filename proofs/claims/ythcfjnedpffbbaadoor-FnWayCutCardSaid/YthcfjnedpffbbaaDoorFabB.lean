/-
  Chapter 16's model, its routes and wires: what is proved here is what l16Route, RouteXY, RouteYX, l16Wires and l16Ways of the model return, and that they write nothing that was there. Condition: lengths up to 2^24.
-/
import Derived.Test.YthcfjnedpffbbaaDoorFabA
import Derived.Test.YthcfjnedpffbbaaDoorListArgI
namespace Go.Proofs.YthcfjnedpffbbaaDoor
open Go.RowKit

theorem litI1 (w : World) (z : Int) : Own (w.alloc (.cells #[.int .i64 z] 3)) w.heap.size 3 (some ⟨w.heap.size, 0, none⟩) 1 1 (ints .i64 [z]) := World.ownsRow_lit w #[.int .i64 z] 1 (Nat.le_refl _) (by unfold maxLen; omega) rfl
theorem litI0 (w : World) : Own (w.alloc (.cells #[] 3)) w.heap.size 3 (some ⟨w.heap.size, 0, none⟩) 0 0 (ints .i64 []) := World.ownsRow_lit w #[] 0 (Nat.le_refl _) (by unfold maxLen; omega) rfl
theorem below_lit (w : World) (o : Obj) : Below w.heap.size w (w.alloc o) := (Below.refl _ _).alloc (Nat.le_refl _) _
theorem ints_snoc16 (k : IntKind) (a : List Int) (z : Int) : ints k (a ++ [z]) = ints k a ++ [.int k z] := by simp [ints]
set_option maxHeartbeats 2000000 in
theorem l16Toward_any {n m : Nat} {W : World} (h : n ≠ m) (hn : n ≤ 65536) (hm : m ≤ 65536) : Calls Tryd.prog 85 #[.int .i64 (n : Int), .int .i64 (m : Int)] W fun e W' => e = .returned (.int .i64 ((near n m : Nat) : Int)) ∧ W = W' := by
  by_cases hlt : n < m
  · have hB : decide ((n : Int) < (m : Int)) = true := by simp; omega
    have hC : decide (n < m) = true := by simp; omega
    have hE : near n m = n + 1 := by unfold near; rw [if_pos hlt]
    rw [hE]
    clear h hE hlt
    go_enter Tryd.func85, Tryd.ntmps85
    go_wp2
    go_ret
    exact ⟨ret_int (by omega), rfl⟩
  · have hB : decide ((n : Int) < (m : Int)) = false := by simp; omega
    have hC : decide (n < m) = false := by simp; omega
    have hE : near n m = n - 1 := by unfold near; rw [if_neg hlt, if_pos (by omega)]
    rw [hE]
    have t1 : IntKind.i64.wrap ((n : Int) - 1) = (n : Int) - 1 := IntWalk.i64_in _ (by omega)
    clear hE
    go_enter Tryd.func85, Tryd.ntmps85
    go_wp2
    go_ret
    exact ⟨ret_int (by omega), rfl⟩
theorem nodes_cons (w : Nat) (s : Nat × Nat) (l : List (Nat × Nat)) : nodes w (s :: l) = ((s.1 + w * s.2 : Nat) : Int) :: nodes w l := rfl
theorem node_small {w y : Nat} (hw : w ≤ 5) (hy : y < 5) : ∃ m : Nat, (w : Int) * (y : Int) = (m : Int) ∧ m = w * y ∧ m ≤ 25 := by
  refine ⟨w * y, (Int.natCast_mul w y).symm, rfl, ?_⟩
  have : w * y ≤ 5 * 5 := Nat.mul_le_mul hw (by omega)
  omega
set_option maxRecDepth 100000 in
set_option maxHeartbeats 8000000 in
theorem l16Route_any {w a b : Nat} {al : Bool} {W : World} (hw : 1 ≤ w ∧ w ≤ 5) (ha : a ≤ 65536) (hb : b ≤ 65536) (hxa : a % w < 5 ∧ a / w < 5 ∧ b % w < 5 ∧ b / w < 5) :
    Calls Tryd.prog 53 #[.int .i64 (w : Int), .int .i64 (a : Int), .int .i64 (b : Int), .bool al] W fun e W' => ∃ A' n' c', e = .returned (.slice A' n' c') ∧ Own W' W.heap.size 3 A' n' c' (ints .i64 ((a : Int) :: nodes w (rt al (a % w) (a / w) (b % w) (b / w)))) ∧ Below W.heap.size W W' := by
  obtain ⟨i0, hi, hz0, hz1, hz2⟩ := info_parts Tryd.infoInt
  have O0 := litI1 W (a : Int)
  have B0 := below_lit W (.cells #[.int .i64 (a : Int)] 3)
  have e1 : (a : Int) % (w : Int) = ((a % w : Nat) : Int) := (Int.natCast_emod a w).symm
  have e2 : (a : Int) / (w : Int) = ((a / w : Nat) : Int) := (Int.natCast_ediv a w).symm
  have e3 : (b : Int) % (w : Int) = ((b % w : Nat) : Int) := (Int.natCast_emod b w).symm
  have e4 : (b : Int) / (w : Int) = ((b / w : Nat) : Int) := (Int.natCast_ediv b w).symm
  obtain ⟨F, hF⟩ : ∃ F, (a : Int) :: nodes w (rt al (a % w) (a / w) (b % w) (b / w)) = F := ⟨_, rfl⟩
  rw [hF]
  generalize a % w = x0 at *
  generalize a / w = y0 at *
  generalize b % w = p at *
  generalize b / w = q at *
  obtain ⟨bx, b_y, bp, bq⟩ := hxa
  have HF0 := Lib.hid hF
  have hFl : Hid (F.length ≤ 1000) := by
    have := congrArg List.length hF
    rw [List.length_cons, nodes_len] at this
    have h2 : (rt al x0 y0 p q).length ≤ 30 := by
      have := routes_len bx b_y bp bq
      unfold rt
      unfold xyS yxS at this
      rw [List.length_cons, List.length_cons] at this
      split <;> omega
    show F.length ≤ 1000
    omega
  have E1 := Lib.hid e1
  have E2 : Hid (RowKit.wrap64 ((a : Int) / (w : Int)) = (y0 : Int)) := by show RowKit.wrap64 _ = _; rw [e2]; exact IntWalk.wrap64_in _ (by omega)
  clear hF e1 e2
  go_enter Tryd.func53, Tryd.ntmps53
  go_wp2
  go_loopw [9, 10, 11] (fun v s t wr => ∃ (x y : Nat) (k : Nat) (A' : Option Addr) (c' : Nat) (zs : List Int), s = .int .i64 (x : Int) ∧ t = .int .i64 (y : Int) ∧ v = .slice A' k c' ∧ Own wr W.heap.size 3 A' k c' (ints .i64 zs) ∧ Hid (zs ++ nodes w (rt al x y p q) = F) ∧ Hid (x < 5 ∧ y < 5) ∧ Below W.heap.size W wr) (fun _ s t _ => ((p - (intOf s).toNat) + ((intOf s).toNat - p)) + ((q - (intOf t).toNat) + ((intOf t).toNat - q)))
  case atStart =>
    have h1 : Hid ([(a : Int)] ++ nodes w (rt al x0 y0 p q) = F) := HF0.out
    have h2 : Hid (x0 < 5 ∧ y0 < 5) := ⟨bx, b_y⟩
    exact ⟨x0, y0, 1, _, _, _, by rw [E1.out], by rw [E2.out], rfl, O0, h1, h2, B0⟩
  case round =>
    obtain ⟨x, y, k, A1, c1, zs, rfl, rfl, rfl, O1, HZ, HB, B1⟩ := hrel
    have hge := B1.size
    have x5 := HB.out.1
    have y5 := HB.out.2
    have hkl : k ≤ 1000 := by
      have h1 := O1.has.len
      have h2 := congrArg List.length HZ.out
      rw [List.length_append] at h2
      have h3 := hFl.out
      omega
    by_cases hx : x = p
    · have xB : ((x : Int) != (p : Int)) = false := by simp; omega
      have xE : ((x : Int) == (p : Int)) = true := by simp; omega
      by_cases hy : y = q
      · have yB : ((y : Int) != (q : Int)) = false := by simp; omega
        have HE : Hid (zs = F) := by
          have := HZ.out
          rw [hx, hy, rt_nil] at this
          show zs = F
          simpa [nodes] using this
        clear hx hy
        go_wp2
        go_ret
        exact ⟨_, _, _, rfl, by rw [← HE.out]; exact O1, B1⟩
      · have yB : ((y : Int) != (q : Int)) = true := by simp; omega
        have yE : ((y : Int) == (q : Int)) = false := by simp; omega
        have C := Lib.hid (fun W => l16Toward_any (W := W) hy (show y ≤ 65536 by omega) (show q ≤ 65536 by omega))
        have y5' := near_le y5 bq
        obtain ⟨m, hm, hmw, hm2⟩ := node_small (y := near y q) hw.2 y5'
        have HZ2 : Hid ((zs ++ [((x + m : Nat) : Int)]) ++ nodes w (rt al x (near y q) p q) = F) := by
          have := HZ.out
          rw [rt_y x5 y5 bp bq hy (fun _ => hx), nodes_cons] at this
          rw [hmw, List.append_assoc]
          exact this
        have HM := Lib.hid (near_lt hy)
        have h2 : Hid (x < 5 ∧ near y q < 5) := ⟨x5, y5'⟩
        clear hx hy hmw
        generalize near y q = y' at *
        go_wp2_with (fail)
        refine (C.out _).mono ?_
        rintro e w' ⟨rfl, rfl⟩
        go_wp2_with (at_builtin; refine wpList_apps _ rfl (.tmp 57) (.tmp 63) 25 rfl W.heap.size 3 i0 (.int .i64 0) 8 Tryd.underlying25 hi hz0 hz1 hz2 rfl A1 k c1 _ rfl O1 1 1 #[.int .i64 ((x : Int) + (m : Int))] rfl rfl (by simp [Value.oneCell']) (by decide) (by omega) (by decide) hge ?_; intro g3 c3 w3 O3 G3 B3 _)
        go_roundw
        case rel => exact ⟨x, y', k + 1, _, _, _, rfl, rfl, by go_num, by rw [ints_snoc16, Int.natCast_add]; exact O3, HZ2, h2, B1.trans B3⟩
        case measure => have := HM.out; simp [intOf]; omega
    · have xB : ((x : Int) != (p : Int)) = true := by simp; omega
      have xE : ((x : Int) == (p : Int)) = false := by simp; omega
      by_cases hy : al = true ∨ y = q
      · have HY := Lib.hid hy
        have C := Lib.hid (fun W => l16Toward_any (W := W) hx (show x ≤ 65536 by omega) (show p ≤ 65536 by omega))
        have x5' := near_le x5 bp
        obtain ⟨m, hm, hmw, hm2⟩ := node_small (y := y) hw.2 y5
        have HZ2 : Hid ((zs ++ [((near x p + m : Nat) : Int)]) ++ nodes w (rt al (near x p) y p q) = F) := by
          have := HZ.out
          rw [rt_x x5 y5 bp bq hx hy, nodes_cons] at this
          rw [hmw, List.append_assoc]
          exact this
        have HM := Lib.hid (near_lt hx)
        have h2 : Hid (near x p < 5 ∧ y < 5) := ⟨x5', y5⟩
        clear hx hy hmw
        generalize near x p = x' at *
        obtain ⟨v, hv⟩ : ∃ v, ((y : Int) == (q : Int)) = v := ⟨_, rfl⟩
        have HYV : al = true ∨ (al = false ∧ v = true) := by
          cases al
          · refine Or.inr ⟨rfl, ?_⟩
            rcases HY.out with h | h
            · cases h
            · rw [← hv, h]; simp
          · exact Or.inl rfl
        clear HY
        rcases HYV with rfl | ⟨rfl, rfl⟩
        all_goals
          go_wp2_with (fail)
          refine (C.out _).mono ?_
          rintro e w' ⟨rfl, rfl⟩
          go_wp2_with (at_builtin; refine wpList_apps _ rfl (.tmp 57) (.tmp 63) 25 rfl W.heap.size 3 i0 (.int .i64 0) 8 Tryd.underlying25 hi hz0 hz1 hz2 rfl A1 k c1 _ rfl O1 1 1 #[.int .i64 ((x' : Int) + (m : Int))] rfl rfl (by simp [Value.oneCell']) (by decide) (by omega) (by decide) hge ?_; intro g3 c3 w3 O3 G3 B3 _)
          go_roundw
          case rel => exact ⟨x', y, k + 1, _, _, _, rfl, rfl, by go_num, by rw [ints_snoc16, Int.natCast_add]; exact O3, HZ2, h2, B1.trans B3⟩
          case measure => have := HM.out; simp [intOf]; omega
      · have hal : al = false := by cases al; rfl; exact absurd (Or.inl rfl) hy
        have hyq : y ≠ q := fun h => hy (Or.inr h)
        subst hal
        have yE : ((y : Int) == (q : Int)) = false := by simp; omega
        have C := Lib.hid (fun W => l16Toward_any (W := W) hyq (show y ≤ 65536 by omega) (show q ≤ 65536 by omega))
        have y5' := near_le y5 bq
        obtain ⟨m, hm, hmw, hm2⟩ := node_small (y := near y q) hw.2 y5'
        have HZ2 : Hid ((zs ++ [((x + m : Nat) : Int)]) ++ nodes w (rt false x (near y q) p q) = F) := by
          have := HZ.out
          rw [rt_y x5 y5 bp bq hyq (fun h => by cases h), nodes_cons] at this
          rw [hmw, List.append_assoc]
          exact this
        have HM := Lib.hid (near_lt hyq)
        have h2 : Hid (x < 5 ∧ near y q < 5) := ⟨x5, y5'⟩
        clear hx hy hmw hyq
        generalize near y q = y' at *
        go_wp2_with (fail)
        refine (C.out _).mono ?_
        rintro e w' ⟨rfl, rfl⟩
        go_wp2_with (at_builtin; refine wpList_apps _ rfl (.tmp 57) (.tmp 63) 25 rfl W.heap.size 3 i0 (.int .i64 0) 8 Tryd.underlying25 hi hz0 hz1 hz2 rfl A1 k c1 _ rfl O1 1 1 #[.int .i64 ((x : Int) + (m : Int))] rfl rfl (by simp [Value.oneCell']) (by decide) (by omega) (by decide) hge ?_; intro g3 c3 w3 O3 G3 B3 _)
        go_roundw
        case rel => exact ⟨x, y', k + 1, _, _, _, rfl, rfl, by go_num, by rw [ints_snoc16, Int.natCast_add]; exact O3, HZ2, h2, B1.trans B3⟩
        case measure => have := HM.out; simp [intOf]; omega

def nats (us : List Nat) : List Int := us.map fun (u : Nat) => (u : Int)
theorem nats_len (us : List Nat) : (nats us).length = us.length := by simp [nats]
theorem nats_snoc (us : List Nat) (u : Nat) : nats (us ++ [u]) = nats us ++ [(u : Int)] := by simp [nats]
theorem nats_at {us : List Nat} {i : Nat} {z : Int} (h : (nats us)[i]? = some z) : z = ((us.getD i 0 : Nat) : Int) := by
  unfold nats at h
  rw [List.getElem?_map] at h
  rw [List.getD_eq_getElem?_getD]
  cases hu : us[i]? with
  | none => rw [hu] at h; cases h
  | some u => rw [hu] at h; simp at h; rw [← h]; rfl
theorem routeXY_len (w h a b : Int) : (routeXY w h a b).length ≤ 30 ∧ (routeYX w h a b).length ≤ 30 := by
  by_cases k : okN w h a ∧ okN w h b
  · have := route_valid k
    exact ⟨this.1.1.2, this.2.1.2⟩
  · unfold routeXY routeYX
    rw [if_neg k, if_neg k]
    exact ⟨by simp, by simp⟩
theorem l16Route_i {w h a b : Int} {al : Bool} {W : World} (k : okN w h a ∧ okN w h b) : Calls Tryd.prog 53 #[.int .i64 w, .int .i64 a, .int .i64 b, .bool al] W fun e W' => ∃ A' n' c', e = .returned (.slice A' n' c') ∧ Own W' W.heap.size 3 A' n' c' (ints .i64 (if al = true then routeXY w h a b else routeYX w h a b)) ∧ Below W.heap.size W W' := by
  have e1 : routeXY w h a b = xyL w.toNat a.toNat b.toNat := by unfold routeXY; rw [if_pos k]
  have e2 : routeYX w h a b = yxL w.toNat a.toNat b.toNat := by unfold routeYX; rw [if_pos k]
  rw [e1, e2, ← rt_full]
  obtain ⟨W0, H0, n, rfl, rfl, rfl, hw, hh, h1, h2⟩ := spot_of k.1
  obtain ⟨W1, H1, m, hq1, hq2, rfl, _, _, h3, h4⟩ := spot_of k.2
  obtain rfl : W0 = W1 := by omega
  obtain rfl : H0 = H1 := by omega
  have g1 := okN_lt k.1
  have g2 := okN_lt k.2
  exact l16Route_any hw (by omega) (by omega) ⟨by omega, by omega, by omega, by omega⟩
set_option maxHeartbeats 2000000 in
theorem specRouteXY_any (w h a b : Int) (W : World) : Calls Tryd.prog 19 #[.int .i64 w, .int .i64 h, .int .i64 a, .int .i64 b] W fun e W' => ∃ A' n' c', e = .returned (.slice A' n' c') ∧ Own W' W.heap.size 3 A' n' c' (ints .i64 (routeXY w h a b)) ∧ Below W.heap.size W W' := by
  by_cases k : okN w h a ∧ okN w h b
  · have C0 := Lib.hid (fun W => l16Nodes_b (W := W) (show (decide (okN w h a) && decide (okN w h b)) = true by rw [decide_eq_true k.1, decide_eq_true k.2]; rfl))
    have C1 := Lib.hid (fun W => l16Route_i (al := true) (W := W) k)
    clear k
    go_enter Tryd.func19, Tryd.ntmps19
    go_wp2_with (fail)
    refine (C0.out _).mono ?_
    rintro e w' ⟨rfl, rfl⟩
    go_wp2_with (fail)
    refine (C1.out _).mono ?_
    rintro e w' ⟨A', n', c', rfl, O, B⟩
    go_wp2
    go_ret
    exact ⟨_, _, _, rfl, O, B⟩
  · have C0 := Lib.hid (fun W => l16Nodes_b (W := W) (show (decide (okN w h a) && decide (okN w h b)) = false by rw [← Bool.decide_and]; exact decide_eq_false k))
    have e1 : routeXY w h a b = [] := by unfold routeXY; rw [if_neg k]
    rw [e1]
    clear k e1
    go_enter Tryd.func19, Tryd.ntmps19
    go_wp2_with (fail)
    refine (C0.out _).mono ?_
    rintro e w' ⟨rfl, rfl⟩
    go_wp2
    go_ret
    exact ⟨_, _, _, rfl, litI0 _, below_lit _ _⟩
set_option maxHeartbeats 2000000 in
theorem specRouteYX_any (w h a b : Int) (W : World) : Calls Tryd.prog 20 #[.int .i64 w, .int .i64 h, .int .i64 a, .int .i64 b] W fun e W' => ∃ A' n' c', e = .returned (.slice A' n' c') ∧ Own W' W.heap.size 3 A' n' c' (ints .i64 (routeYX w h a b)) ∧ Below W.heap.size W W' := by
  by_cases k : okN w h a ∧ okN w h b
  · have C0 := Lib.hid (fun W => l16Nodes_b (W := W) (show (decide (okN w h a) && decide (okN w h b)) = true by rw [decide_eq_true k.1, decide_eq_true k.2]; rfl))
    have C1 := Lib.hid (fun W => l16Route_i (al := false) (W := W) k)
    clear k
    go_enter Tryd.func20, Tryd.ntmps20
    go_wp2_with (fail)
    refine (C0.out _).mono ?_
    rintro e w' ⟨rfl, rfl⟩
    go_wp2_with (fail)
    refine (C1.out _).mono ?_
    rintro e w' ⟨A', n', c', rfl, O, B⟩
    go_wp2
    go_ret
    exact ⟨_, _, _, rfl, O, B⟩
  · have C0 := Lib.hid (fun W => l16Nodes_b (W := W) (show (decide (okN w h a) && decide (okN w h b)) = false by rw [← Bool.decide_and]; exact decide_eq_false k))
    have e1 : routeYX w h a b = [] := by unfold routeYX; rw [if_neg k]
    rw [e1]
    clear k e1
    go_enter Tryd.func20, Tryd.ntmps20
    go_wp2_with (fail)
    refine (C0.out _).mono ?_
    rintro e w' ⟨rfl, rfl⟩
    go_wp2
    go_ret
    exact ⟨_, _, _, rfl, litI0 _, below_lit _ _⟩
set_option maxRecDepth 100000 in
set_option maxHeartbeats 8000000 in
theorem l16Wires_any {A : Option Addr} {n c : Nat} {ks : List Int} {w h : Int} {W : World} (hA : Has W A n (ints .i64 ks)) (hv : WayOk w h ks) :
    Calls Tryd.prog 67 #[.int .i64 w, .slice A n c] W fun e W' => ∃ A' n' c', e = .returned (.slice A' n' c') ∧ Own W' W.heap.size 3 A' n' c' (ints .i64 (nats (wiresN w.toNat ks))) ∧ Below W.heap.size W W' := by
  obtain ⟨i0, hi, hz0, hz1, hz2⟩ := info_parts Tryd.infoInt
  have O0 := litI0 W
  have B0 := below_lit W (.cells #[] 3)
  have hl := hA.len
  have h1n : 1 ≤ n := by have := hv.1.1; omega
  have hn30 : n ≤ 30 := by have := hv.1.2; omega
  have HV := Lib.hid hv
  have HL := Lib.hid hl
  clear hv hl
  go_enter Tryd.func67, Tryd.ntmps67
  go_wp2
  go_loopw [5, 6] (fun v t wr => ∃ (k : Nat) (A' : Option Addr) (c' : Nat), k + 1 ≤ n ∧ t = .int .i64 ((k : Int) + 1) ∧ v = .slice A' k c' ∧ Own wr W.heap.size 3 A' k c' (ints .i64 (nats (wiresTo w.toNat ks k))) ∧ Below W.heap.size W wr) (fun _ t _ => n - (intOf t).toNat)
  case atStart => exact ⟨0, _, _, by omega, rfl, rfl, O0, B0⟩
  case round =>
    obtain ⟨k, A1, c1, hk, rfl, rfl, O1, B1⟩ := hrel
    have hge := B1.size
    by_cases hlt : k + 1 < n
    · have hltB : decide ((k : Int) + 1 < (n : Int)) = true := by simp; omega
      obtain ⟨b, o, y, rfl, hbl, hy, hc⟩ := (hA.bel B1).at_ (show k < n by omega)
      obtain ⟨b', o', z, hA', hbl', hz, hc'⟩ := (hA.bel B1).at_ hlt
      injection hA' with hA'; injection hA' with q1 q2; subst q1 q2
      have eyn : nd ks k = y.toNat := by unfold nd; rw [getD_of hy]
      have ezn : nd ks (k + 1) = z.toNat := by unfold nd; rw [getD_of hz]
      have ky : okN w h y := by have := (HV.out.2 k (by have := HL.out; omega)).1; rw [getD_of hy] at this; exact this
      have kz : okN w h z := by have := (HV.out.2 (k + 1) (by have := HL.out; omega)).1; rw [getD_of hz] at this; exact this
      have hU := wire_at HV.out (i := k) (by have := HL.out; omega)
      have HX := Lib.hid (wiresTo_snoc w.toNat ks k)
      rw [eyn, ezn] at hU HX
      have C := Lib.hid (fun W => l16Wire_i (W := W) ky kz)
      obtain ⟨u, hu⟩ : ∃ u : Nat, wireW w.toNat y.toNat z.toNat = (u : Int) := ⟨(wireW w.toNat y.toNat z.toNat).toNat, by omega⟩
      rw [hu] at C HX
      rw [show ((u : Int)).toNat = u from rfl] at HX
      have hk0 : (0 : Int) ≤ (k : Int) := by omega
      have hk1 : (k : Int) < (n : Int) := by omega
      have hk2 : (0 : Int) ≤ (k : Int) + 1 := by omega
      have hk3 : (k : Int) + 1 < (n : Int) := by omega
      have t1 : IntKind.i64.wrap ((k : Int) + 1 - 1) = (k : Int) := by rw [show (k : Int) + 1 - 1 = (k : Int) by omega]; exact IntWalk.i64_in _ (by omega)
      have t2 : IntKind.i64.wrap (k : Int) = (k : Int) := IntWalk.i64_in _ (by omega)
      have n1 : ((k : Int) + 1).toNat = k + 1 := by omega
      clear ky kz hu hU eyn ezn hy hz
      go_wp2
      have O2 : ((wr.alloc (.cells #[Value.int .i64 (u : Int)] 3)).drew).ownsRow W.heap.size 3 1 (.slice A1 k c1) k (ints .i64 (nats (wiresTo w.toNat ks k))) := World.ownsRow.drew (World.ownsRow.alloc O1 _)
      have N2 := Lib.hid (World.news_of_block (w := (wr.alloc (.cells #[Value.int .i64 (u : Int)] 3)).drew) (B := wr.heap.size) (cs := #[Value.int .i64 (u : Int)]) (t := 3) (fr := (0, 0)) (heap_alloc_new wr _))
      have Z2 : W.heap.size ≤ ((wr.alloc (.cells #[Value.int .i64 (u : Int)] 3)).drew).heap.size := by simp; omega
      go_region_law (first | ((with_reducible refine step_append_lies _ rfl (.tmp 14) (.tmp 26) 25 rfl W.heap.size 3 i0 (.int .i64 0) 1 8 Tryd.underlying25 hi hz0 hz1 hz2 ?c1 ?c2 (.slice A1 k c1) k (ints .i64 (nats (wiresTo w.toNat ks k))) rfl O2 ⟨wr.heap.size, 0, none⟩ 1 1 (#[Value.int .i64 (u : Int)] : Array Value).toList rfl ?c3 N2.out ?c4 ?c5 ?c6 ?c7 Z2 _ rfl ?_); (case c1 => rfl); (case c2 => decide); (case c3 => rfl); (case c4 => simp [Value.oneCell']); (case c5 => decide); (case c6 => unfold maxLen; omega); (case c7 => omega); intro g cap w4 O4 G4 _ _) | (go_simp; go_at_call 56; with_reducible refine (C.out _).mono ?_; rintro e w' ⟨rfl, rfl⟩))
      all_goals
        go_wp2
        go_roundw
        case rel => exact ⟨k + 1, _, _, by omega, by go_num, rfl, by rw [HX.out, nats_snoc, ints_snoc16]; exact O4, ((B1.alloc hge _).drew).trans (below_of_grown G4 Z2 (fun g hg => (World.ownsRow.lt O2 g hg).1))⟩
        case measure => simp [intOf]; omega
    · have hltB : decide ((k : Int) + 1 < (n : Int)) = false := by simp; omega
      have HE : Hid (wiresN w.toNat ks = wiresTo w.toNat ks k) := by
        show wiresN w.toNat ks = _
        unfold wiresN
        rw [HL.out, show n - 1 = k by omega]
      go_wp2
      go_ret
      exact ⟨_, _, _, rfl, by rw [HE.out]; exact O1, B1⟩
def WaysOk (w h : Int) (kss : List (List Int)) : Prop := okWH w h ∧ kss.length ≤ 12 ∧ ∀ ks ∈ kss, WayOk w h ks
instance (w h : Int) (kss : List (List Int)) : Decidable (WaysOk w h kss) := by unfold WaysOk; infer_instance
def wiresAll (w : Nat) (kss : List (List Int)) : List (List Nat) := kss.map (wiresN w)
set_option maxRecDepth 100000 in
set_option maxHeartbeats 8000000 in
theorem l16Ways_b {A : Option Addr} {n c : Nat} {kss : List (List Int)} {w h : Int} {W : World} {v : Bool} (hA : HasLI W A n kss) (hn : n ≤ 16777216) (hlen : ∀ ks ∈ kss, ks.length ≤ 16777216) (hv : decide (WaysOk w h kss) = v) :
    Calls Tryd.prog 66 #[.int .i64 w, .int .i64 h, .slice A n c] W fun e W' => e = .returned (.bool v) ∧ Below W.heap.size W W' := by
  have HL := Lib.hid hA.len
  have HV := Lib.hid hv
  have HN := Lib.hid hlen
  clear hv hlen
  go_enter Tryd.func66, Tryd.ntmps66
  go_wp2
  go_loopw [7] (fun t wr => ∃ k : Nat, k ≤ n ∧ t = .int .i64 (k : Int) ∧ Hid (∀ ks ∈ kss.take k, WayOk w h ks) ∧ Below W.heap.size W wr) (fun t _ => n - (intOf t).toNat)
  case atStart =>
    have h1 : Hid (∀ ks ∈ kss.take 0, WayOk w h ks) := fun ks hk => by simp at hk
    exact ⟨0, Nat.zero_le _, rfl, h1, Below.refl _ _⟩
  case round =>
    obtain ⟨k, hk, rfl, HA, B⟩ := hrel
    have hge := B.size
    by_cases hlt : k < n
    · have hltB : decide ((k : Int) < (n : Int)) = true := by simp; omega
      obtain ⟨b, o, A2, m, d, ks, rfl, hbl, hx, hc, hmd, hH⟩ := (hA.bel B).at_ hlt
      have hmem : ks ∈ kss := List.mem_of_getElem? hx
      have hm : m ≤ 16777216 := by rw [← hH.len]; exact HN.out ks hmem
      have hk0 : (0 : Int) ≤ (k : Int) := by omega
      have hk1 : (k : Int) < (n : Int) := by omega
      by_cases kz : WayOk w h ks
      · have C := Lib.hid (specWayValid_b (c := d) (w := w) (h := h) hH hm (decide_eq_true kz))
        have HS : Hid (∀ ks ∈ kss.take (k + 1), WayOk w h ks) := by
          show ∀ ks ∈ kss.take (k + 1), WayOk w h ks
          intro q hq
          rw [List.take_add_one, hx] at hq
          rcases List.mem_append.1 hq with hq | hq
          · exact HA.out q hq
          · simp at hq; subst hq; exact kz
        clear kz hx hmem hH
        go_wp2_with (fail)
        refine C.out.mono ?_
        rintro e w' ⟨rfl, B2⟩
        go_wp2
        go_roundw
        case rel => exact ⟨k + 1, by omega, by go_num, HS, bel_trans B B2⟩
        case measure => simp [intOf]; omega
      · have C := Lib.hid (specWayValid_b (c := d) (w := w) (h := h) hH hm (decide_eq_false kz))
        have HE : Hid (false = v) := by
          show false = v
          rw [← HV.out]
          exact (decide_eq_false (fun hh : WaysOk w h kss => kz (hh.2.2 ks hmem))).symm
        clear kz hx hmem hH
        go_wp2_with (fail)
        refine C.out.mono ?_
        rintro e w' ⟨rfl, B2⟩
        go_wp2
        go_ret
        exact ⟨ret_bool HE.out, bel_trans B B2⟩
    · have hltB : decide ((k : Int) < (n : Int)) = false := by simp; omega
      obtain rfl : k = n := by omega
      have HF : Hid (decide (WaysOk w h kss) = (decide (okWH w h) && decide (kss.length ≤ 12))) := by
        show decide (WaysOk w h kss) = _
        have h1 := HA.out
        rw [List.take_of_length_le (by have := HL.out; omega)] at h1
        rw [← Bool.decide_and]
        exact decide_eq_decide.2 ⟨fun hh => ⟨hh.1, hh.2.1⟩, fun hh => ⟨hh.1, hh.2, h1⟩⟩
      have C := Lib.hid (fun W => l16Fabric_any w h W)
      cases hq : decide (okWH w h) <;> rw [hq] at C HF
      · go_wp2_with (fail)
        refine (C.out _).mono ?_
        rintro e w' ⟨rfl, rfl⟩
        go_wp2
        go_ret
        exact ⟨ret_bool (HF.out.symm.trans HV.out), B⟩
      · have HF2 : Hid (decide ((k : Int) ≤ 12) = v) := by
          show decide ((k : Int) ≤ 12) = v
          rw [← HV.out, HF.out, Bool.true_and]
          have := HL.out
          apply decide_eq_decide.2
          omega
        go_wp2_with (fail)
        refine (C.out _).mono ?_
        rintro e w' ⟨rfl, rfl⟩
        by_cases h12 : k ≤ 12
        · have b1 : decide ((k : Int) ≤ 12) = true := by simp; omega
          rw [b1] at HF2
          go_wp2
          go_ret
          exact ⟨ret_bool HF2.out, B⟩
        · have b1 : decide ((k : Int) ≤ 12) = false := by simp; omega
          rw [b1] at HF2
          go_wp2
          go_ret
          exact ⟨ret_bool HF2.out, B⟩
end Go.Proofs.YthcfjnedpffbbaaDoor
