/-
  Chapter 7's model, the tree and the way up: what is proved here is what TreeOf and WayUp return, and that they write nothing that was there. Condition: lengths up to 2^24.
-/
import Derived.Test.YtkmdpmhaljieaaaCabU
namespace Go.Proofs.Ytkmdpmhaljieaaa
open Go.RowKit

theorem optI_eq (o : Option Nat) (i : Nat) : (optI o == (i : Int)) = decide (o = some i) := by
  by_cases h : o = some i
  · subst h
    rw [decide_eq_true rfl]
    show ((i : Int) == (i : Int)) = true
    simp
  · rw [decide_eq_false h]
    cases o with
    | none => show ((-1 : Int) == (i : Int)) = false; simp
    | some j =>
      have hj : j ≠ i := fun e => h (by rw [e])
      show ((j : Int) == (i : Int)) = false
      simp; omega
theorem rowT_yes {cs : List Cab} {F : List Nat} {i b : Nat} (h : upN cs F b = some i) : rowT cs F i (b + 1) = rowT cs F i b ++ [i] := by rw [rowT, if_pos h]
theorem rowT_no {cs : List Cab} {F : List Nat} {i b : Nat} (h : upN cs F b ≠ some i) : rowT cs F i (b + 1) = rowT cs F i b := by rw [rowT, if_neg h, List.append_nil]
/-- A slice of ints that a call made stays where another is appended to. -/
theorem Has.aside {w w' : World} {A B : Option Addr} {n : Nat} {xs : List Value} (h : Has w A n xs) (hg : w.grownBy w' (B.map (·.block))) (hne : ∀ a b, A = some a → B = some b → a.block ≠ b.block) : Has w' A n xs :=
  h.grown hg (fun a ha e => by
    cases B with
    | none => cases e
    | some b => exact hne a b ha rfl (by injection e))
theorem treeT_len_le (cs : List Cab) (F : List Nat) (m i : Nat) : (treeT cs F m i).length ≤ m := by
  rw [tree_len]; exact cnt_le _ _
theorem rowT_len_le (cs : List Cab) (F : List Nat) (i m : Nat) : (rowT cs F i m).length ≤ m := by
  rw [row_len]; exact cnt_le _ _

set_option maxRecDepth 100000 in
set_option maxHeartbeats 8000000 in
theorem specTreeOf_w {A : Option Addr} {n c : Nat} {ks : List Tri} {nz : Int} {w : World} (h : HasK w A n ks) (hn : n ≤ 16777216) :
    Calls Try.prog 30 #[.int .i64 nz, .slice A n c] w fun e w' => ∃ A' n' c', e = .returned (.slice A' n' c') ∧ Own w' w.heap.size 3 A' n' c' (ints .i64 (treeI nz ks)) ∧ Below w.heap.size w w' := by
  obtain ⟨i0, hi, hz0, hz1, hz2⟩ := info_parts Try.infoInt
  have B0 : Below w.heap.size w (w.alloc (.cells #[] 3)) := (Below.refl _ _).alloc (Nat.le_refl _) _
  have E0 : Own (w.alloc (.cells #[] 3)) w.heap.size 3 (some ⟨w.heap.size, 0, none⟩) 0 0 (ints .i64 []) := World.ownsRow_lit w #[] 0 (Nat.le_refl _) (by unfold maxLen; omega) rfl
  have s0 : w.heap.size < (w.alloc (.cells #[] 3)).heap.size := by simp
  have h0 := h.bel B0
  generalize hW0 : w.alloc (.cells #[] 3) = W0 at B0 E0 s0 h0
  by_cases hv : kOk nz ks
  · have N := kOk_yes hv
    generalize nz.toNat = m at N
    generalize ks.map cabOf = cs at N
    have C1 := Lib.hid (specCablesValid_b (c := c) h0 hn (decide_eq_true hv))
    have hm := N.le
    have hp := N.pos
    have HE := Lib.hid (show treeI nz ks = intsOf (treeT cs (costsN m cs) m cs.length) from N.tree)
    have hnn : n ≤ 20 := by have h1 := h.1; rw [N.ks_eq, List.length_map] at h1; have := N.few; omega
    have hnl : cs.length = n := by have h1 := h.1; rw [N.ks_eq, List.length_map] at h1; exact h1
    rw [hnl] at HE
    obtain rfl := N.n_eq
    obtain rfl := N.ks_eq
    have HC := Lib.hid N.ok
    have HCAP := Lib.hid (show CapC (costsN m cs) from iter_inv (P := CapC) (fun x hx => hx.pass cs) (init_cap m cs) m)
    clear hv N hnl
    go_enter Try.func30, Try.ntmps30
    go_wp2_with (fail)
    refine C1.out.mono ?_
    rintro e w1 ⟨rfl, B1⟩
    have s1 := B1.size
    have E1 := E0.bel B1
    have D1 := B0.trans (B1.mono B0.size)
    go_wp2_with (fail)
    refine (l7Costs_any (h0.bel B1) HC.out hm hp hnn).mono ?_
    rintro e w3 ⟨A3, c3, rfl, O3, B3⟩
    have s3 := B3.size
    have E3 := E1.bel B3
    have D3 := D1.trans (B3.mono D1.size)
    have F3 := O3.has
    have hap : ∀ a b, A3 = some a → (some ⟨w.heap.size, 0, none⟩ : Option Addr) = some b → a.block ≠ b.block := fun a b ha hb => by
      subst ha; injection hb with hb; subst hb
      have := O3.block.1; simp only; omega
    generalize costsN m cs = F at *
    clear C1 O3 B1 B3 E0 E1 hW0
    go_wp2
    go_loopw [5, 7] (fun v t wx => ∃ (i : Nat) (A' : Option Addr) (q c' : Nat), i ≤ n ∧ q ≤ 8 ∧ t = .int .i64 (i : Int) ∧ v = .slice A' q c' ∧ Own wx w.heap.size 3 A' q c' (cI (treeT cs F m i)) ∧ Has wx A3 m (cI F) ∧ (∀ a b, A3 = some a → A' = some b → a.block ≠ b.block) ∧ Below w.heap.size w wx) (fun _ t _ => n - (intOf t).toNat)
    case atStart => exact ⟨0, _, 0, _, Nat.zero_le _, by omega, rfl, rfl, E3, F3, hap, D3⟩
    case round =>
      obtain ⟨i, A4, q4, c4, hi4, hq4, rfl, rfl, O4, F4, ap4, D4⟩ := hrel
      have hge := D4.size
      by_cases hlt : i < n
      · have hltB : decide ((i : Int) < (n : Int)) = true := by simp; omega
        go_wp2
        go_loopw [5, 8] (fun v t wx => ∃ (b : Nat) (A' : Option Addr) (q c' : Nat), b ≤ m ∧ q ≤ 16 ∧ t = .int .i64 (b : Int) ∧ v = .slice A' q c' ∧ Own wx w.heap.size 3 A' q c' (cI (treeT cs F m i ++ rowT cs F i b)) ∧ Has wx A3 m (cI F) ∧ (∀ a b, A3 = some a → A' = some b → a.block ≠ b.block) ∧ Below w.heap.size w wx) (fun _ t _ => m - (intOf t).toNat)
        case atStart => exact ⟨0, _, _, _, Nat.zero_le _, by omega, rfl, rfl, by rw [rowT, List.append_nil]; exact O4, F4, ap4, D4⟩
        case round =>
          obtain ⟨b, A5, q5, c5, hb5, hq5, rfl, rfl, O5, F5, ap5, D5⟩ := hrel
          have hge5 := D5.size
          by_cases hbm : b < m
          · have hbmB : decide ((b : Int) < (m : Int)) = true := by simp; omega
            have C5 := Lib.hid (l7Up_any (c := c) (d := c3) (h.bel D5) F5 HC.out HCAP.out hnn hbm)
            by_cases hu : upN cs F b = some i
            · have hub : (optI (upN cs F b) == (i : Int)) = true := by rw [optI_eq, decide_eq_true hu]
              have HR := Lib.hid (rowT_yes hu)
              have HQ : q5 + 1 ≤ 16 := by
                have h1 := O5.has.1
                rw [cI_len, List.length_append] at h1
                have h2 := treeT_len_le cs F m i
                have h3 := rowT_len_le cs F i (b + 1)
                rw [rowT_yes hu, List.length_append] at h3
                simp at h3
                omega
              generalize optI (upN cs F b) = ub at *
              clear hu
              go_wp2_with (fail)
              refine C5.out.mono ?_
              rintro e w6 ⟨rfl, B6⟩
              have O6 := O5.bel B6
              have F6 := F5.bel B6
              have D6 := D5.trans (B6.mono hge5)
              have s6 := D6.size
              go_wp2_with (at_builtin; refine wpList_apps _ rfl (.tmp 35) (.tmp 37) 33 rfl w.heap.size 3 i0 (.int .i64 0) 8 Try.underlying33 hi hz0 hz1 hz2 rfl A5 q5 c5 _ rfl O6 1 1 #[.int .i64 (i : Int)] rfl rfl (by simp [Value.oneCell']) (by decide) (by omega) (by decide) (by omega) ?_; intro g7 c7 w7 O7 G7 B7 hat7)
              have D7 := D6.trans B7
              have F7 := F6.aside G7 ap5
              have ap7 : ∀ a b, A3 = some a → (some ⟨g7, 0, none⟩ : Option Addr) = some b → a.block ≠ b.block := fun a b ha hb => by
                injection hb with hb
                subst hb
                simp only
                rcases hat7 with hat | hat
                · cases A5 with
                  | none => cases hat
                  | some a5 =>
                    have := ap5 a a5 ha rfl
                    simp at hat; omega
                · subst ha
                  obtain ⟨gb, ob, hA, hgb, _⟩ := has_cI F6 (show 0 < m by omega)
                  injection hA with hA; subst hA; simp only; omega
              go_roundw
              case rel => exact ⟨b + 1, _, _, _, by omega, HQ, by go_num, rfl, by rw [HR.out, ← List.append_assoc, cI_app]; exact O7, F7, ap7, D7⟩
              case measure => simp [intOf]; omega
            · have hub : (optI (upN cs F b) == (i : Int)) = false := by rw [optI_eq, decide_eq_false hu]
              have HR := Lib.hid (rowT_no hu)
              generalize optI (upN cs F b) = ub at *
              clear hu
              go_wp2_with (fail)
              refine C5.out.mono ?_
              rintro e w6 ⟨rfl, B6⟩
              have O6 := O5.bel B6
              have F6 := F5.bel B6
              have D6 := D5.trans (B6.mono hge5)
              go_wp2
              go_roundw
              case rel => exact ⟨b + 1, _, _, _, by omega, hq5, by go_num, rfl, by rw [HR.out]; exact O6, F6, ap5, D6⟩
              case measure => simp [intOf]; omega
          · have hbmB : decide ((b : Int) < (m : Int)) = false := by simp; omega
            obtain rfl : b = m := by omega
            have HT := Lib.hid (show treeT cs F b (i + 1) = treeT cs F b i ++ rowT cs F i b from rfl)
            have hq8 : q5 ≤ 8 := by
              have h1 := O5.has.1
              rw [cI_len] at h1
              have h2 := treeT_len_le cs F b (i + 1)
              rw [HT.out] at h2
              omega
            go_wp2
            go_roundw
            case rel => exact ⟨i + 1, _, _, _, by omega, hq8, by go_num, rfl, by rw [HT.out]; exact O5, F5, ap5, D5⟩
            case measure => simp [intOf]; omega
      · have hltB : decide ((i : Int) < (n : Int)) = false := by simp; omega
        obtain rfl : i = n := by omega
        go_wp2
        go_ret
        exact ⟨_, _, _, rfl, by rw [HE.out]; exact O4, D4⟩
  · have HE := Lib.hid (show treeI nz ks = [] by unfold treeI; rw [if_neg hv])
    have C1 := Lib.hid (specCablesValid_b (c := c) h0 hn (decide_eq_false hv))
    clear hv
    go_enter Try.func30, Try.ntmps30
    go_wp2_with (fail)
    refine C1.out.mono ?_
    rintro e w1 ⟨rfl, B1⟩
    have E1 := E0.bel B1
    have D1 := B0.trans (B1.mono B0.size)
    go_wp2
    go_ret
    exact ⟨_, _, _, rfl, by rw [HE.out]; exact E1, D1⟩

set_option maxRecDepth 100000 in
set_option maxHeartbeats 8000000 in
theorem specWayUp_w {A : Option Addr} {n c : Nat} {ks : List Tri} {nz b : Int} {w : World} (h : HasK w A n ks) (hn : n ≤ 16777216) :
    Calls Try.prog 43 #[.int .i64 nz, .slice A n c, .int .i64 b] w fun e w' => ∃ A' n' c', e = .returned (.slice A' n' c') ∧ Own w' w.heap.size 3 A' n' c' (ints .i64 (wayI nz ks b)) ∧ Below w.heap.size w w' := by
  obtain ⟨i0, hi, hz0, hz1, hz2⟩ := info_parts Try.infoInt
  have B0 : Below w.heap.size w (w.alloc (.cells #[] 3)) := (Below.refl _ _).alloc (Nat.le_refl _) _
  have E0 : Own (w.alloc (.cells #[] 3)) w.heap.size 3 (some ⟨w.heap.size, 0, none⟩) 0 0 (ints .i64 []) := World.ownsRow_lit w #[] 0 (Nat.le_refl _) (by unfold maxLen; omega) rfl
  have s0 : w.heap.size < (w.alloc (.cells #[] 3)).heap.size := by simp
  have h0 := h.bel B0
  generalize hW0 : w.alloc (.cells #[] 3) = W0 at B0 E0 s0 h0
  by_cases hv : kOk nz ks
  · have N := kOk_yes hv
    generalize nz.toNat = m at N
    generalize ks.map cabOf = cs at N
    have C1 := Lib.hid (specCablesValid_b (c := c) h0 hn (decide_eq_true hv))
    have hm := N.le
    have hp := N.pos
    by_cases hb : 0 ≤ b ∧ b ≤ nz - 1
    · obtain ⟨x, rfl⟩ := Int.eq_ofNat_of_zero_le hb.1
      have hx : x < m := by have := N.n_eq; omega
      have HE := Lib.hid (N.way hx)
      have C2 := Lib.hid (fun W => l1In_yes (x : Int) 0 (nz - 1) W hb.1 hb.2)
      have hnn : n ≤ 20 := by have h1 := h.1; rw [N.ks_eq, List.length_map] at h1; have := N.few; omega
      have hnl : cs.length = n := by have h1 := h.1; rw [N.ks_eq, List.length_map] at h1; exact h1
      obtain rfl := N.n_eq
      obtain rfl := N.ks_eq
      have HC := Lib.hid N.ok
      have HL := Lib.hid hnl
      have HCAP := Lib.hid (show CapC (costsN m cs) from iter_inv (P := CapC) (fun x hx => hx.pass cs) (init_cap m cs) m)
      have HW0 := Lib.hid (show [] ++ wayF cs (costsN m cs) (gn (costsN m cs) x) x = wayN m cs x from rfl)
      have HLEN := Lib.hid (show (wayN m cs x).length ≤ 1000 by
        have h2 := wayF_len cs (costsN m cs) (gn (costsN m cs) x) x
        have h3 := cost_le HC.out hx
        unfold wayN; omega)
      generalize hwl : wayN m cs x = wl at *
      clear hv N hnl hb hwl
      go_enter Try.func43, Try.ntmps43
      go_wp2_with (fail)
      refine C1.out.mono ?_
      rintro e w1 ⟨rfl, B1⟩
      have s1 := B1.size
      have E1 := E0.bel B1
      have D1 := B0.trans (B1.mono B0.size)
      go_wp2_with (fail)
      refine (C2.out _).mono ?_
      rintro e w2 ⟨rfl, rfl⟩
      go_wp2_with (fail)
      refine (l7Costs_any (h0.bel B1) HC.out hm hp hnn).mono ?_
      rintro e w3 ⟨A3, c3, rfl, O3, B3⟩
      have s3 := B3.size
      have E3 := E1.bel B3
      have D3 := D1.trans (B3.mono D1.size)
      have F3 := O3.has
      have hap : ∀ a b, A3 = some a → (some ⟨w.heap.size, 0, none⟩ : Option Addr) = some b → a.block ≠ b.block := fun a b ha hb => by
        subst ha; injection hb with hb; subst hb
        have := O3.block.1; simp only; omega
      generalize costsN m cs = F at *
      clear C1 O3 B1 B3 E0 E1 hW0
      go_wp2_with (at_builtin; refine wpList_apps _ rfl (.tmp 26) (.tmp 28) 33 rfl w.heap.size 3 i0 (.int .i64 0) 8 Try.underlying33 hi hz0 hz1 hz2 rfl _ 0 0 _ rfl E3 1 1 #[.int .i64 (x : Int)] rfl rfl (by simp [Value.oneCell']) (by decide) (by omega) (by decide) (by omega) ?_; intro g7 c7 w7 O7 G7 B7 hat7)
      have D7 := D3.trans B7
      have F7 := F3.aside G7 hap
      have ap7 : ∀ a b, A3 = some a → (some ⟨g7, 0, none⟩ : Option Addr) = some b → a.block ≠ b.block := fun a b ha hb => by
        injection hb with hb
        subst hb
        simp only
        rcases hat7 with hat | hat
        · have := hap a _ ha rfl
          simp at hat this; omega
        · subst ha
          obtain ⟨gb, ob, hA, hgb, _⟩ := has_cI F3 (show 0 < m by omega)
          injection hA with hA; subst hA; simp only; omega
      have O7' : Own w7 w.heap.size 3 (some ⟨g7, 0, none⟩) 1 c7 (cI ([] ++ [x])) := O7
      clear O7 E3 F3 hap G7 B7 hat7
      have C8 := Lib.hid (l7Up_any (c := c) (d := c3) (h.bel D7) F7 HC.out HCAP.out hnn hx)
      go_wp2_with (fail)
      refine C8.out.mono ?_
      rintro e w8 ⟨rfl, B8⟩
      have O8 := O7'.bel B8
      have F8 := F7.bel B8
      have D8 := D7.trans (B8.mono D7.size)
      clear O7' F7 D7 B8 C8
      go_wp2
      go_loopw [2, 7, 9] (fun tb v tu wx => ∃ (y f : Nat) (pre : List Nat) (A' : Option Addr) (q c' : Nat), y < m ∧ gn F y ≤ f ∧ q ≤ 1000 ∧ tb = .int .i64 (y : Int) ∧ v = .slice A' q c' ∧ tu = .int .i64 (optI (upN cs F y)) ∧ Own wx w.heap.size 3 A' q c' (cI (pre ++ [y])) ∧ Hid (pre ++ wayF cs F f y = wl) ∧ Has wx A3 m (cI F) ∧ (∀ a b, A3 = some a → A' = some b → a.block ≠ b.block) ∧ Below w.heap.size w wx) (fun tb _ _ _ => gn F (intOf tb).toNat)
      case atStart => exact ⟨x, gn F x, [], _, 1, _, hx, Nat.le_refl _, by omega, rfl, rfl, rfl, O8, HW0, F8, ap7, D8⟩
      case round =>
        obtain ⟨y, f, pre, A5, q5, c5, hy, hf, hq5, rfl, rfl, rfl, O5, HW, F5, ap5, D5⟩ := hrel
        have hge5 := D5.size
        cases hu : upN cs F y with
        | none =>
          have huB : decide (optI none ≥ 0) = false := by decide
          have HE2 := Lib.hid (show pre ++ [y] = wl by rw [← HW.out, wayF_none hu])
          clear hu
          have hoi : optI none = -1 := rfl
          rw [hoi]
          go_wp2
          go_ret
          exact ⟨_, _, _, rfl, by rw [HE.out, ← HE2.out]; exact O5, D5⟩
        | some i =>
          obtain ⟨o, ho, hom, hlo, hlt⟩ := up_edge HC.out hu
          obtain ⟨f', rfl⟩ : ∃ f', f = f' + 1 := ⟨f - 1, by omega⟩
          have hin : i < n := by have := (up_some hu).2.1; have := HL.out; omega
          have HE2 := Lib.hid (show (pre ++ [y]) ++ wayF cs F f' o = wl by rw [← HW.out, wayF_some hu ho]; simp)
          have hq6 : q5 + 1 ≤ 1000 := by
            have h1 := O5.has.1
            rw [cI_len] at h1
            have h2 := congrArg List.length HE2.out
            rw [List.length_append] at h2
            obtain ⟨l, hl⟩ := wayF_head cs F f' o
            rw [hl, List.length_cons] at h2
            have := HLEN.out
            omega
          obtain ⟨bb, o1, rfl, hbl, e0, e1, e2⟩ := (h.bel D5).cab7 hin
          have C5 := Lib.hid (l7Other_any (cab cs i) y wr)
          rw [othI_some ho] at C5
          have hoi : optI (some i) = (i : Int) := rfl
          rw [hoi]
          clear hu ho hlo
          generalize cab cs i = cc at *
          go_wp2_with (fail)
          refine C5.out.mono ?_
          rintro e w6 ⟨rfl, B6⟩
          have O6 := O5.bel B6
          have F6 := F5.bel B6
          have D6 := D5.trans (B6.mono hge5)
          have s6 := D6.size
          clear e0 e1 e2
          go_wp2_with (at_builtin; refine wpList_apps _ rfl (.tmp 46) (.tmp 48) 33 rfl w.heap.size 3 i0 (.int .i64 0) 8 Try.underlying33 hi hz0 hz1 hz2 rfl A5 q5 c5 _ rfl O6 1 1 #[.int .i64 (o : Int)] rfl rfl (by simp [Value.oneCell']) (by decide) (by omega) (by decide) (by omega) ?_; intro g7 c7 w7 O7 G7 B7 hat7)
          have D7 := D6.trans B7
          have F7 := F6.aside G7 ap5
          have ap8 : ∀ a b, A3 = some a → (some ⟨g7, 0, none⟩ : Option Addr) = some b → a.block ≠ b.block := fun a b ha hb => by
            injection hb with hb
            subst hb
            simp only
            rcases hat7 with hat | hat
            · cases A5 with
              | none => cases hat
              | some a5 =>
                have := ap5 a a5 ha rfl
                simp at hat; omega
            · subst ha
              obtain ⟨gb, ob, hA, hgb, _⟩ := has_cI F6 (show 0 < m by omega)
              injection hA with hA; subst hA; simp only; omega
          have O8 : Own w7 w.heap.size 3 (some ⟨g7, 0, none⟩) (q5 + 1) c7 (cI ((pre ++ [y]) ++ [o])) := by rw [cI_app (pre ++ [y])]; exact O7
          clear O7 G7 B7 hat7 O6 O5 F6 F5
          have C8 := Lib.hid (l7Up_any (c := c) (d := c3) (h.bel D7) F7 HC.out HCAP.out hnn hom)
          go_wp2_with (fail)
          refine C8.out.mono ?_
          rintro e w8 ⟨rfl, B8⟩
          have O9 := O8.bel B8
          have F9 := F7.bel B8
          have D9 := D7.trans (B8.mono D7.size)
          have hfo : gn F o ≤ f' := by omega
          go_wp2
          go_roundw
          case rel => exact ⟨o, f', pre ++ [y], _, _, _, hom, hfo, hq6, rfl, rfl, rfl, O9, HE2, F9, ap8, D9⟩
          case measure => simp [intOf]; omega
    · have HE := Lib.hid (show wayI nz ks b = [] by unfold wayI; rw [if_neg (fun hh => hb hh.2)])
      have C2 := Lib.hid (fun W => l1In_no b 0 (nz - 1) W hb)
      have hz : 1 ≤ nz ∧ nz ≤ 8 := hv.1
      clear hv hb N
      go_enter Try.func43, Try.ntmps43
      go_wp2_with (fail)
      refine C1.out.mono ?_
      rintro e w1 ⟨rfl, B1⟩
      have E1 := E0.bel B1
      have D1 := B0.trans (B1.mono B0.size)
      go_wp2_with (fail)
      refine (C2.out _).mono ?_
      rintro e w2 ⟨rfl, rfl⟩
      go_wp2
      go_ret
      exact ⟨_, _, _, rfl, by rw [HE.out]; exact E1, D1⟩
  · have HE := Lib.hid (show wayI nz ks b = [] by unfold wayI; rw [if_neg (fun hh => hv hh.1)])
    have C1 := Lib.hid (specCablesValid_b (c := c) h0 hn (decide_eq_false hv))
    clear hv
    go_enter Try.func43, Try.ntmps43
    go_wp2_with (fail)
    refine C1.out.mono ?_
    rintro e w1 ⟨rfl, B1⟩
    have E1 := E0.bel B1
    have D1 := B0.trans (B1.mono B0.size)
    go_wp2
    go_ret
    exact ⟨_, _, _, rfl, by rw [HE.out]; exact E1, D1⟩
end Go.Proofs.Ytkmdpmhaljieaaa
