/-
  FnPolice: for every argument the law of frames that are let through returns true and writes nothing that was there. No condition.
-/
import Derived.Test.YtnloejcfakcpfaaImp14d
import Derived.Test.YtnloejcfakcpfaaShpB
import Derived.Test.YtnloejcfakcpfaaShpY
import Derived.Test.YtnloejcfakcpfaaShut
namespace Go.Proofs.Ytnloejcfakcpfaa
open Go.RowKit Go.ChangeShapes Go.WideShapes Go.ChangeAt

/-- A list put behind a fresh, empty one, at a step of a region that draws its order. -/
theorem step_copyD {P : Program} {ops : Array Oper} {o : Oper} {a : Act} {K : Act → World → Prop} {Q : Exit → Act → World → Prop} {E : Prop} (w : World) (hgd : o.guard = none) (s x : Operand) (t : TypeId)
    (ho : o.op = .call { callee := .builtin .append, args := #[s, x], argTypes := #[t, t] })
    (lo : Nat) (e : TypeId) (i : TypeInfo) (z : Value) (bytes : Nat) (ht : P.underlying t = some (.slice e)) (hi : P.info? e = some i) (hz : i.zero = some z) (hsize : i.size = 2) (hby : i.bytes = bytes) (hzs : z.cells.size = 2)
    (G : Nat) (hs : a.eval s = .slice (some ⟨G, 0, none⟩) 0 0) (hown : OwnD w lo e (some ⟨G, 0, none⟩) 0 0 []) (B : Option Addr) (m c' : Nat) (ks : List Duo) (hx : a.eval x = .slice B m c') (hr : HasD w B m ks)
    (h63 : m ≤ 1000000) (hbytes : bytes ≤ 64) (hlo : lo ≤ w.heap.size)
    (h : ∀ A' cap w', OwnD w' lo e A' m cap ks → w.grownBy w' (some G) → K (a.put o.dst (.slice A' m cap)) w') :
    if Region.wanted o (yielded ops a.tmps) = true then Oper.wp P o a w K Q else E :=
  step_appD w hgd s x t ho lo e i z bytes ht hi hz hsize hby hzs _ 0 0 [] hs hown B m c' ks hx hr (by omega) hbytes hlo (fun A' cap w' h1 h2 => by
    rw [Nat.zero_add] at h1 ⊢
    exact h A' cap w' h1 h2)
theorem OwnD.alloc14 {w : World} {lo n c : Nat} {e : TypeId} {A : Option Addr} {hs : List Duo} (h : OwnD w lo e A n c hs) (o : Obj) : OwnD (w.alloc o) lo e A n c hs := World.ownsRow.alloc h o
theorem hasD_one (w : World) (e : TypeId) (u v : Int) : HasD (w.alloc (.cells #[.int .i64 u, .int .i64 v] e)) (some ⟨w.heap.size, 0, none⟩) 1 [(u, v)] :=
  ⟨rfl, fun i hi => by
    obtain rfl : i = 0 := by omega
    have hb := heap_alloc_new w (.cells #[.int .i64 u, .int .i64 v] e)
    exact ⟨w.heap.size, 0, (u, v), rfl, rfl, (cell_of_row _ _ 0 _ _ (0, 0) hb).trans rfl, (cell_of_row _ _ 1 _ _ (0, 0) hb).trans rfl⟩⟩
theorem HasD.off {w w' : World} {g n : Nat} {r : Option Nat} {hs : List Duo} (h : HasD w (some ⟨g, 0, none⟩) n hs) (hg : w.grownBy w' r) (hne : r ≠ some g) : HasD w' (some ⟨g, 0, none⟩) n hs :=
  ⟨h.1, fun i hi => by
    obtain ⟨b, o, x, hA, hx, c0, c1⟩ := h.2 i hi
    injection hA with hA
    injection hA with e1 e2
    subst e1 e2
    have hlt : g < w.heap.size := World.block_lt_of_cell? w _ c0
    have e := hg.block g hlt (fun e => hne e.symm)
    exact ⟨g, 0, x, rfl, hx, (World.cell?_of_block (show w'.heap[(⟨g, 0 + i * 2, none⟩ : Addr).block]? = w.heap[(⟨g, 0 + i * 2, none⟩ : Addr).block]? from e)).trans c0, (World.cell?_of_block (show w'.heap[(⟨g, 0 + i * 2 + 1, none⟩ : Addr).block]? = w.heap[(⟨g, 0 + i * 2 + 1, none⟩ : Addr).block]? from e)).trans c1⟩⟩
theorem some_yes {r b : Int} {hs : List Duo} {k : Nat} (h : thr r b hs k = true) : someTo r b hs (k + 1) = someTo r b hs k ++ [dj hs k] := by
  show (if thr r b hs k = true then _ else _) = _
  rw [if_pos h]
theorem some_no {r b : Int} {hs : List Duo} {k : Nat} (h : thr r b hs k = false) : someTo r b hs (k + 1) = someTo r b hs k := by
  show (if thr r b hs k = true then _ else _) = _
  rw [if_neg (by rw [h]; simp)]
set_option maxRecDepth 100000 in
set_option maxHeartbeats 8000000 in
theorem walk_FnPolice {A : Option Addr} {n c : Nat} {zs : List Int} {w : World} (h : Has w A n (ints .u8 zs)) (hwf : ∀ z ∈ zs, (Lit.int .u8 z).wf = true) (hc : n ≤ c ∧ c ≤ maxLen) :
    Calls Try.prog 4 #[.slice A n c] w fun e w' => e = .returned (.bool true) ∧ Below w.heap.size w w' := by
  have hu : U8s zs := fun z hz => u8_of_wf (hwf z hz)
  obtain ⟨j0, hji, jz0, jz1, jz2⟩ := info_partsD Try.infoPulseD
  clear hwf
  by_cases hn : n ≤ 1048576
  rotate_left
  · go_enter Try.func4, Try.ntmps4
    go_wp2
    go_ret
    exact ⟨rfl, Below.refl _ _⟩
  go_enter Try.func4, Try.ntmps4
  go_wp2_with (fail)
  refine (drawPolicePulses_any h hu hc).mono ?_
  rintro e w1 ⟨a, b, B, m, d, js, rfl, H1, hmd, h21, B1⟩
  obtain ⟨L, hL⟩ : ∃ L, polI a b js = L := ⟨_, rfl⟩
  have HL := Lib.hid hL
  have HLN := Lib.hid H1.1
  clear hL hn
  go_wp2_with (fail)
  refine (implPolicePulses_r H1 (by omega) HL.out).mono ?_
  rintro e w2 ⟨A2, n2, c2, rfl, O2, B2⟩
  have hl2 := has_bools_len O2.has
  have C2 := bel_trans B1 B2
  have H2 := H1.bel B2
  go_wp2_with (fail)
  refine (specPolicePulses_r H2 (by omega) HL.out).mono ?_
  rintro e w3 ⟨A3, n3, c3, rfl, O3, B3⟩
  have hl3 := has_bools_len O3.has
  obtain rfl : n3 = n2 := by omega
  have HLL := Lib.hid hl2
  have C3 := bel_trans C2 B3
  have H3 := H2.bel B3
  have P2 := (O2.bel B3).has
  have P3 := O3.has
  have HH := Lib.hid H3
  have HP2 := Lib.hid P2
  have HP3 := Lib.hid P3
  have HC := Lib.hid C3
  have hn60 : n3 ≤ 60 := by rw [← hl2, ← HL.out]; exact pol_len _ _ _
  have nB : ((n3 : Int) != (n3 : Int)) = false := by simp
  have S0 : HasD (w3.alloc (.cells #[] 29)) (some ⟨w3.heap.size, 0, none⟩) 0 (someTo a b js 0) := ⟨rfl, fun i hi => by omega⟩
  have DB0 := below_allocJ w3 (.cells #[] 29)
  clear H1 H2 B1 B2 B3 C2 O2 O3 P2 P3 H3 C3 hl2 hl3
  go_wp2
  go_loopw [8, 37] (fun v i wr => ∃ (k : Nat) (A' : Option Addr) (k' c' : Nat), k ≤ n3 ∧ i = .int .i64 (k : Int) ∧ v = .slice A' k' c' ∧ k' ≤ k ∧ HasD wr A' k' (someTo a b js k) ∧ Below w3.heap.size w3 wr) (fun _ i _ => n3 - (intOf i).toNat)
  case atStart => exact ⟨0, _, 0, 0, Nat.zero_le _, rfl, rfl, Nat.le_refl _, S0, DB0⟩
  case round =>
    clear S0 DB0
    obtain ⟨k, A5, k5, c5, hk, rfl, rfl, hk5, S5, DB⟩ := hrel
    have hge := DB.size
    by_cases hlt : k < n3
    · have l1 : decide ((k : Int) < (n3 : Int)) = true := decide_eq_true (by omega)
      have hp := pol_at (r := a) (b := b) (hs := js) (k := k) (by rw [HL.out, HLL.out]; exact hlt)
      rw [HL.out] at hp
      have HOK : Hid (shOk a b js) := by
        have : shOk a b js := Classical.byContradiction fun hh => by
          have h1 := HLL.out
          rw [← HL.out] at h1
          unfold polI at h1
          rw [if_neg hh] at h1
          simp at h1
          omega
        exact this
      obtain ⟨b0, o0, hA0, hbl0, d0⟩ := has_bool (HP2.out.bel DB) hlt
      obtain ⟨b2, o2, hA2, hbl2, d2⟩ := has_bool (HP3.out.bel DB) hlt
      obtain ⟨b1, o1, f, t, rfl, hbl1, hx1, c0, c1⟩ := (HH.out.bel DB).at_ (i := k) (by have := hp.2; have := HLN.out; omega)
      obtain ⟨p, hpp⟩ : ∃ p, thr a b js k = p := ⟨_, rfl⟩
      rw [hp.1, hpp] at d0 d2
      have HPP := Lib.hid hpp
      have pB : (p != p) = false := by simp
      have hdj := dj_atS hx1
      have HDJ := Lib.hid hdj
      have HW := Lib.hid (show decide (confP a b (someTo a b js k ++ [(f, t)])) = p by rw [← hpp, ← hdj]; exact with_conf HOK.out hp.2)
      have km : k < m := by have := hp.2; have := HLN.out; omega
      have kmi : (k : Int) < (m : Int) := by omega
      have HC0 := Lib.hid (fun (W : World) (hW : Below wr.heap.size wr W) => (hW.cell (p := ⟨b1, o1 + k * 2, none⟩) hbl1).trans c0)
      have HC1 := Lib.hid (fun (W : World) (hW : Below wr.heap.size wr W) => (hW.cell (p := ⟨b1, o1 + k * 2 + 1, none⟩) hbl1).trans c1)
      have HC2 := Lib.hid (fun (W : World) (hW : Below wr.heap.size wr W) => (hW.cell (p := ⟨b2, o2 + k, none⟩) hbl2).trans d2)
      have HS5 := Lib.hid (fun (W : World) (hW : Below wr.heap.size wr W) => S5.bel hW)
      have D1 : Below wr.heap.size wr ((wr.alloc (.cells #[] 29)).drew) := (below_allocJ wr _).drew
      have D2 : Below wr.heap.size wr (((wr.alloc (.cells #[] 29)).alloc (.cells #[.int .i64 f, .int .i64 t] 29)).drew) := (bel_trans (below_allocJ wr _) (below_allocJ _ _)).drew
      have D3 : Below wr.heap.size wr (((wr.alloc (.cells #[.int .i64 f, .int .i64 t] 29)).alloc (.cells #[] 29)).drew) := (bel_trans (below_allocJ wr _) (below_allocJ _ _)).drew
      have F1 : OwnD ((wr.alloc (.cells #[] 29)).drew) wr.heap.size 29 (some ⟨wr.heap.size, 0, none⟩) 0 0 [] := World.ownsRow.drew (World.ownsRow_lit wr #[] 0 (Nat.le_refl _) (by unfold maxLen; omega) rfl)
      have F2 : OwnD (((wr.alloc (.cells #[] 29)).alloc (.cells #[.int .i64 f, .int .i64 t] 29)).drew) wr.heap.size 29 (some ⟨wr.heap.size, 0, none⟩) 0 0 [] := World.ownsRow.drew (World.ownsRow.alloc (World.ownsRow_lit wr #[] 0 (Nat.le_refl _) (by unfold maxLen; omega) rfl) _)
      have F3 : OwnD (((wr.alloc (.cells #[.int .i64 f, .int .i64 t] 29)).alloc (.cells #[] 29)).drew) wr.heap.size 29 (some ⟨wr.heap.size + 1, 0, none⟩) 0 0 [] := by
        have q := World.ownsRow.drew (World.ownsRow_lit (e := 29) (base := wr.heap.size) (size := 2) (wr.alloc (.cells #[.int .i64 f, .int .i64 t] 29)) #[] 0 (by simp) (by unfold maxLen; omega) rfl)
        have e : (wr.alloc (.cells #[.int .i64 f, .int .i64 t] 29)).heap.size = wr.heap.size + 1 := by simp
        rw [e] at q
        exact q
      have N2 := Lib.hid (show HasD (((wr.alloc (.cells #[] 29)).alloc (.cells #[.int .i64 f, .int .i64 t] 29)).drew) (some ⟨wr.heap.size + 1, 0, none⟩) 1 [(f, t)] by
        have q := hasD_one (wr.alloc (.cells #[] 29)) 29 f t
        have e : (wr.alloc (.cells #[] 29)).heap.size = wr.heap.size + 1 := by simp
        rw [e] at q
        exact q.bel (below_drewN _ 1))
      have N3 := Lib.hid (show HasD (((wr.alloc (.cells #[.int .i64 f, .int .i64 t] 29)).alloc (.cells #[] 29)).drew) (some ⟨wr.heap.size, 0, none⟩) 1 [(f, t)] from ((hasD_one wr 29 f t).bel (below_allocJ _ _)).bel (below_drewN _ 1))
      subst hA0 hA2
      clear hx1 hdj hpp hp S5
      go_wp2
      go_region_law (first
        | ((with_reducible refine step_copyD ((wr.alloc (.cells #[] 29)).drew) rfl (.tmp 42) (.tmp 43) 23 rfl wr.heap.size 29 j0 (.agg #[.int .i64 0, .int .i64 0]) 16 Try.underlying23 hji jz0 jz1 jz2 ?c2 wr.heap.size rfl F1 A5 k5 c5 (someTo a b js k) rfl (HS5.out _ D1) ?c3 ?c4 D1.size ?_); (case c2 => decide); (case c3 => omega); (case c4 => decide); intro A6 c6 w6 O6 G6; have B6 : Below wr.heap.size wr w6 := D1.trans (below_of_grown G6 D1.size (fun j hj => by injection hj with hj; omega)); have u0 := HC0.out _ B6; have u1 := HC1.out _ B6)
        | ((with_reducible refine step_copyD (((wr.alloc (.cells #[] 29)).alloc (.cells #[.int .i64 f, .int .i64 t] 29)).drew) rfl (.tmp 42) (.tmp 43) 23 rfl wr.heap.size 29 j0 (.agg #[.int .i64 0, .int .i64 0]) 16 Try.underlying23 hji jz0 jz1 jz2 ?c2 wr.heap.size rfl F2 A5 k5 c5 (someTo a b js k) rfl (HS5.out _ D2) ?c3 ?c4 D2.size ?_); (case c2 => decide); (case c3 => omega); (case c4 => decide); intro A6 c6 w6 O6 G6; have B6 : Below wr.heap.size wr w6 := D2.trans (below_of_grown G6 D2.size (fun j hj => by injection hj with hj; omega)); have u0 := HC0.out _ B6; have u1 := HC1.out _ B6; have N6 : HasD w6 (some ⟨wr.heap.size + 1, 0, none⟩) 1 [(f, t)] := N2.out.off G6 (by simp))
        | ((with_reducible refine step_copyD (((wr.alloc (.cells #[.int .i64 f, .int .i64 t] 29)).alloc (.cells #[] 29)).drew) rfl (.tmp 42) (.tmp 43) 23 rfl wr.heap.size 29 j0 (.agg #[.int .i64 0, .int .i64 0]) 16 Try.underlying23 hji jz0 jz1 jz2 ?c2 (wr.heap.size + 1) rfl F3 A5 k5 c5 (someTo a b js k) rfl (HS5.out _ D3) ?c3 ?c4 D3.size ?_); (case c2 => decide); (case c3 => omega); (case c4 => decide); intro A6 c6 w6 O6 G6; have B6 : Below wr.heap.size wr w6 := D3.trans (below_of_grown G6 D3.size (fun j hj => by injection hj with hj; omega)); have u0 := HC0.out _ B6; have u1 := HC1.out _ B6; have N6 : HasD w6 (some ⟨wr.heap.size, 0, none⟩) 1 [(f, t)] := N3.out.off G6 (by simp))
        | ((with_reducible refine step_appD (w6.alloc (.cells #[.int .i64 f, .int .i64 t] 29)) rfl (.tmp 44) (.tmp 49) 23 rfl wr.heap.size 29 j0 (.agg #[.int .i64 0, .int .i64 0]) 16 Try.underlying23 hji jz0 jz1 jz2 ?c2 A6 k5 c6 (someTo a b js k) rfl (O6.alloc14 _) _ 1 1 [(f, t)] rfl (hasD_one w6 29 f t) ?c3 ?c4 (B6.trans ((below_allocJ w6 (.cells #[.int .i64 f, .int .i64 t] 29)).mono B6.size)).size ?_); (case c2 => decide); (case c3 => omega); (case c4 => decide); intro A7 c7 w7 O7 G7; have B7 : Below wr.heap.size wr w7 := (B6.trans ((below_allocJ w6 (.cells #[.int .i64 f, .int .i64 t] 29)).mono B6.size)).trans (below_of_grown G7 (B6.trans ((below_allocJ w6 (.cells #[.int .i64 f, .int .i64 t] 29)).mono B6.size)).size (fun j hj => by obtain ⟨x, hx, rfl⟩ := Option.map_eq_some_iff.1 hj; subst hx; exact (World.ownsRow.lt O6 x.block rfl).1)))
        | ((with_reducible refine step_appD w6 rfl (.tmp 44) (.tmp 49) 23 rfl wr.heap.size 29 j0 (.agg #[.int .i64 0, .int .i64 0]) 16 Try.underlying23 hji jz0 jz1 jz2 ?c2 A6 k5 c6 (someTo a b js k) rfl O6 _ 1 1 [(f, t)] rfl N6 ?c3 ?c4 (B6).size ?_); (case c2 => decide); (case c3 => omega); (case c4 => decide); intro A7 c7 w7 O7 G7; have B7 : Below wr.heap.size wr w7 := (B6).trans (below_of_grown G7 (B6).size (fun j hj => by obtain ⟨x, hx, rfl⟩ := Option.map_eq_some_iff.1 hj; subst hx; exact (World.ownsRow.lt O6 x.block rfl).1))))
      all_goals
        have u2 := HC2.out _ B7
        clear D1 D2 D3 F1 F2 F3 N2 N3 G6 G7 O6
        go_wp2_with (fail)
        refine (implConforms_b O7.has (by omega) HW.out).mono ?_
        rintro e w8 ⟨rfl, B8⟩
        have B78 := bel_trans B7 B8
        have DB8 := DB.trans (B78.mono hge)
        cases p with
        | true =>
          have S8 : HasD w8 A7 (k5 + 1) (someTo a b js (k + 1)) := by rw [some_yes HPP.out, HDJ.out]; exact O7.has.bel B8
          go_wp2
          go_roundw
          case rel => exact ⟨k + 1, _, _, _, by omega, by go_num, rfl, by omega, S8, DB8⟩
          case measure => simp [intOf]; omega
        | false =>
          have S8 : HasD w8 A5 k5 (someTo a b js (k + 1)) := by rw [some_no HPP.out]; exact HS5.out _ B78
          go_wp2
          go_roundw
          case rel => exact ⟨k + 1, _, _, _, by omega, by go_num, rfl, by omega, S8, DB8⟩
          case measure => simp [intOf]; omega
    · have l1 : decide ((k : Int) < (n3 : Int)) = false := decide_eq_false (by omega)
      obtain rfl : k = n3 := by omega
      have C4 := bel_trans HC.out DB
      by_cases hz : k = 0
      · have z1 : ((k : Int) == 0) = true := by simp [hz]
        have z2 : (k == 0) = true := by simp [hz]
        clear hz
        go_wp2
        go_ret
        exact ⟨rfl, C4⟩
      · have z1 : ((k : Int) == 0) = false := by simp; omega
        have z2 : (k == 0) = false := by simp; omega
        have HOK : shOk a b js := Classical.byContradiction fun hh => by
          have h1 := HLL.out
          rw [← HL.out] at h1
          unfold polI at h1
          rw [if_neg hh] at h1
          simp at h1
          omega
        have hkl : k ≤ js.length := by
          have h1 := HLL.out
          rw [← HL.out] at h1
          unfold polI at h1
          rw [if_pos HOK, polTo_len] at h1
          omega
        have HCF := Lib.hid (decide_eq_true (some_conf HOK hkl))
        clear hz HOK hkl
        go_wp2_with (fail)
        refine (implConforms_b S5 (by omega) HCF.out).mono ?_
        rintro e w8 ⟨rfl, B8⟩
        go_wp2
        go_ret
        exact ⟨rfl, bel_trans C4 B8⟩
set_option maxRecDepth 100000 in
theorem lifted_FnPolice (os : Os) (started : os.Started) (H : Type) (enc : TypeId × Value → H) :
    ReturnsInHanded {} Try.checked os 4 .any (Rows.fnPoliceSpec.pre6 enc Try.prog Try.f4 Rows.fnPoliceRow.domain false) (Rows.fnPoliceSpec.post enc Try.prog Try.f4 false true false false) := by
  refine returnsInHanded_of_change (C := Try.checked) (by kernel_rfl) started (by kernel_rfl) Try.func4
    (ChangeSpec.witness6 (enc := enc) (C := Try.checked) false ⟨#[], #[.slice none 0 0], []⟩ 8 (by kernel_rfl) (by kernel_rfl) (by kernel_rfl) (by kernel_rfl)) ?_
  intro W base args ds gs before hval0 hW hcnd _
  have hval : ∀ (j : Nat) t v, Try.f4.params[j]? = some t → args[j]? = some v → Value.okWide Try.prog W .any base t v := hval0
  have hW' := hW
  obtain ⟨p, q, hA0, hV, rfl, hfz, hnd⟩ := hW
  have hA : DataW.TrodAll enc Try.prog W 0 (fun _ => true) true Try.f4.params.toList args.toList ds p := hA0
  rw [Try.params4] at hA hval
  obtain ⟨v0, vs0, d0, ds0, p0, q0, hargs, rfl, rfl, h0, r0⟩ := trodAll_cons hA
  obtain ⟨rfl, rfl, rfl⟩ := trodAll_nil r0
  obtain rfl : args = #[v0] := by cases args; simp_all
  obtain ⟨rfl, rfl⟩ := trodVars_none hV
  obtain ⟨a0, len0, cap0, rfl⟩ := okWide_slice Try.underlying22 (hval 0 22 v0 rfl rfl)
  have k0 := h0
  have lt0 : ∀ x ∈ p0, x.block < W.heap.size := by obtain ⟨m, hm⟩ := k0; exact DataW.trod_lt m _ _ _ hm
  obtain ⟨z0, H0, U0, M0⟩ := has_of_trod (k := .u8) Try.underlying22 Try.underlying5 (by kernel_rfl) h0
  clear hA0 hval0
  refine (walk_FnPolice H0 U0 M0).mono fun e W' ⟨he, bel⟩ => ?_
  subst he
  exact ⟨_, rfl, _, _, _, [], _, [], hW', trodAll_mk1 (shut_bool Try.underlying4 _), (trodAll_cons_mk (Below.trod (by kernel_rfl) (by kernel_rfl) (of_decide_eq_true (by kernel_rfl)) k0 bel lt0) trodAll_mk0), rfl, bel.frame _, fun h => by cases h⟩

theorem fnPolice_holds : Rows.FnPoliceSaid :=
  OpenClaim.holds_of_wide 4 Try.f4 rfl rfl rfl rfl rfl rfl rfl ⟨rfl, rfl, rfl, rfl, rfl⟩ rfl rfl rfl rfl rfl (by kernel_rfl) Try.func4
    (by unfold joinedFacts; with_reducible refine Bool.and_eq_true_iff.2 ⟨?_, (by as_aux_lemma => kernel_rfl)⟩; with_reducible refine Bool.and_eq_true_iff.2 ⟨?_, (by as_aux_lemma => kernel_rfl)⟩; with_reducible refine Bool.and_eq_true_iff.2 ⟨?_, (by as_aux_lemma => kernel_rfl)⟩; with_reducible refine Bool.and_eq_true_iff.2 ⟨?_, (by as_aux_lemma => kernel_rfl)⟩; with_reducible refine Bool.and_eq_true_iff.2 ⟨?_, (by with_unfolding_all exact shutMake)⟩; with_reducible refine Bool.and_eq_true_iff.2 ⟨?_, (by with_unfolding_all exact shutLifts)⟩; with_reducible refine Bool.and_eq_true_iff.2 ⟨?_, shutEnter⟩; (repeat (with_reducible refine Bool.and_eq_true_iff.2 ⟨?_, (by as_aux_lemma => kernel_rfl)⟩)); as_aux_lemma => kernel_rfl)
    (of_decide_eq_true (by kernel_rfl)) (by unfold Func.isWrapper; first | (rw [if_pos (by decide +kernel)]; kernel_rfl) | (rw [if_neg (by decide +kernel)]; exact ⟨rfl, rfl⟩))
    (fun os started H enc _ => lifted_FnPolice os started H enc)
end Go.Proofs.Ytnloejcfakcpfaa
