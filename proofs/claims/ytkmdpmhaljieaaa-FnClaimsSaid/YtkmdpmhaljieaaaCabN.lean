/-
  Chapter 7's model, what bridges claim next: what is proved here is what NextClaims and ClaimsAfter return, and that they write nothing that was there. Condition: lengths up to 2^24.
-/
import Derived.Test.YtkmdpmhaljieaaaCabF
import Derived.StillTailTactics
namespace Go.Proofs.Ytkmdpmhaljieaaa
open Go.RowKit

/-- What stands when bridge b has heard i cables. -/
def outC (n : Nat) (cs : List Cab) (cl : List (List Int)) (b i : Nat) : List (List Int) :=
  (List.range n).map fun v => if v < b then bestTo cs cl v cs.length else if v = b then bestTo cs cl b i else clm0 v
theorem outC_len (n : Nat) (cs : List Cab) (cl : List (List Int)) (b i : Nat) : (outC n cs cl b i).length = n := by simp [outC]
theorem outC_at {n : Nat} {cs : List Cab} {cl : List (List Int)} {b i v : Nat} (h : v < n) : (outC n cs cl b i)[v]? = some (if v < b then bestTo cs cl v cs.length else if v = b then bestTo cs cl b i else clm0 v) := by simp [outC, h]
theorem outC_zero (n : Nat) (cs : List Cab) (cl : List (List Int)) : outC n cs cl 0 0 = firstL n := by
  unfold outC firstL
  refine List.map_congr_left fun v _ => ?_
  rw [if_neg (by omega)]
  split
  · rename_i h; rw [h]; rfl
  · rfl
theorem outC_next (n : Nat) (cs : List Cab) (cl : List (List Int)) (b : Nat) : outC n cs cl b cs.length = outC n cs cl (b + 1) 0 := by
  unfold outC
  refine List.map_congr_left fun v _ => ?_
  by_cases h1 : v < b
  · rw [if_pos h1, if_pos (by omega)]
  · rw [if_neg h1]
    by_cases h2 : v = b
    · rw [if_pos h2, if_pos (by omega), h2]
    · rw [if_neg h2, if_neg (by omega)]
      split
      · rename_i h; rw [h]; rfl
      · rfl
theorem outC_end (n : Nat) (cs : List Cab) (cl : List (List Int)) : outC n cs cl n 0 = nextN n cs cl := by
  unfold outC nextN
  refine List.map_congr_left fun v hv => ?_
  rw [if_pos (List.mem_range.1 hv)]
theorem outC_set {n : Nat} {cs : List Cab} {cl : List (List Int)} {b i : Nat} (hb : b < n) : outC n cs cl b (i + 1) = (outC n cs cl b i).set b (bestTo cs cl b (i + 1)) := by
  apply List.ext_getElem?
  intro v
  by_cases hv : v < n
  · rw [outC_at hv]
    by_cases h2 : v = b
    · subst h2
      rw [if_neg (by omega), if_pos rfl, List.getElem?_set_self (by rw [outC_len]; exact hv)]
    · rw [List.getElem?_set_ne (Ne.symm h2), outC_at hv, if_neg h2, if_neg h2]
  · rw [List.getElem?_eq_none (by rw [outC_len]; omega), List.getElem?_eq_none (by rw [List.length_set, outC_len]; omega)]
theorem outC_stay {n : Nat} {cs : List Cab} {cl : List (List Int)} {b i : Nat} (h : bestTo cs cl b (i + 1) = bestTo cs cl b i) : outC n cs cl b (i + 1) = outC n cs cl b i := by
  unfold outC; rw [h]
theorem clm_at {cl : List (List Int)} {o : Nat} {x : List Int} (h : cl[o]? = some x) : clmAt cl o = x := by unfold clmAt; rw [List.getD_eq_getElem?_getD, h]; rfl

set_option maxRecDepth 100000 in
set_option maxHeartbeats 16000000 in
theorem specNextClaims_w {A B : Option Addr} {n c m d : Nat} {ks : List Tri} {cl : List (List Int)} {nz : Int} {w : World} (h : HasK w A n ks) (hl : HasLI w B m cl) (hn : n ≤ 16777216) (hm : m ≤ 16777216) :
    Calls Try.prog 40 #[.int .i64 nz, .slice A n c, .slice B m d] w fun e w' => ∃ A' n' c', e = .returned (.slice A' n' c') ∧ OwnLI w' w.heap.size A' n' c' (nextI nz ks cl) ∧ Below w.heap.size w w' := by
  have HLL := Lib.hid hl.len
  by_cases hv : kOk nz ks
  · have C1 := Lib.hid (specCablesValid_b (c := c) h hn (decide_eq_true hv))
    have hz : 1 ≤ nz ∧ nz ≤ 8 := hv.1
    by_cases hmn : (m : Int) = nz
    · subst hmn
      have hmB : ((m : Int) != (m : Int)) = false := by simp
      have hm1 : 1 ≤ m := by omega
      have hm8 : m ≤ 8 := by omega
      have N := kOk_yes hv
      have hmm : (m : Int).toNat = m := rfl
      rw [hmm] at N
      generalize ks.map cabOf = cs at N
      have HV := Lib.hid hv
      have hnn : n ≤ 20 := by have h1 := h.1; rw [N.ks_eq, List.length_map] at h1; have := N.few; omega
      have hnl : cs.length = n := by have h1 := h.1; rw [N.ks_eq, List.length_map] at h1; exact h1
      obtain rfl := N.ks_eq
      have HC := Lib.hid N.ok
      have HN := Lib.hid N
      clear hv hz N hmm
      go_enter Try.func40, Try.ntmps40
      go_wp2_with (fail)
      refine C1.out.mono ?_
      rintro e w1 ⟨rfl, B1⟩
      have h1 := h.bel B1
      have l1 := hl.bel B1
      have s1 := B1.size
      clear C1
      go_wp2
      go_loopw [7] (fun t wx => ∃ k : Nat, k ≤ m ∧ t = .int .i64 (k : Int) ∧ Hid (∀ x ∈ cl.take k, clmOk x) ∧ wx = w1) (fun t _ => m - (intOf t).toNat)
      case atStart =>
        have : Hid (∀ x ∈ cl.take 0, clmOk x) := fun x hx => by simp at hx
        exact ⟨0, Nat.zero_le _, rfl, this, rfl⟩
      case round =>
        obtain ⟨k, hk, rfl, HK, rfl⟩ := hrel
        by_cases hlt : k < m
        · have hltB : decide ((k : Int) < (m : Int)) = true := by simp; omega
          obtain ⟨bb, o, X, q, r, x, rfl, hbl, hx, hc, hqr, hX⟩ := l1.at_ hlt
          have HM := Lib.hid (List.mem_of_getElem? hx)
          have HT := Lib.hid (show ∀ g ∈ cl.take (k + 1), g ∈ cl.take k ∨ g = x from fun g hg => by
            rw [List.take_add_one, hx] at hg
            rcases List.mem_append.1 hg with hg | hg
            · exact Or.inl hg
            · right; simpa using hg)
          have HB0 := Lib.hid (fun (hno : ¬ clmOk x) => show nextI (m : Int) (cs.map triOf) cl = [] by unfold nextI; rw [if_neg (fun hh => hno (hh.2.2 x HM.out))])
          have hxl := hX.len
          clear hx
          by_cases h4 : q = 4
          · subst h4
            obtain ⟨b1, o1, hA1, hb1, c1⟩ := has_gi hX (i := 1) (by omega)
            subst hA1
            by_cases h5 : 0 ≤ gi x 1 ∧ gi x 1 ≤ 10000
            · have C2 := Lib.hid (fun W => l1In_yes (gi x 1) 0 10000 W h5.1 h5.2)
              have HK2 : Hid (∀ g ∈ cl.take (k + 1), clmOk g) := fun g hg => by
                rcases HT.out g hg with hg | rfl
                · exact HK.out g hg
                · exact ⟨hxl, h5⟩
              clear h5 HB0
              generalize gi x 1 = x1 at *
              go_wp2_with (fail)
              refine (C2.out _).mono ?_
              rintro e w2 ⟨rfl, rfl⟩
              go_wp2
              go_roundw
              case rel => exact ⟨k + 1, by omega, by go_num, HK2, trivial⟩
              case measure => simp [intOf]; omega
            · have C2 := Lib.hid (fun W => l1In_no (gi x 1) 0 10000 W h5)
              have HE := Lib.hid (HB0.out (fun hh => h5 hh.2))
              clear h5 HB0
              generalize gi x 1 = x1 at *
              go_wp2_with (fail)
              refine (C2.out _).mono ?_
              rintro e w2 ⟨rfl, rfl⟩
              go_wp2
              go_ret
              exact ⟨_, _, _, rfl, by rw [HE.out]; exact ownLI_lit _ _ B1.size, B1.alloc B1.size _⟩
          · have h4B : ((q : Int) != 4) = true := by simp; omega
            have HE := Lib.hid (HB0.out (fun hh => h4 (hxl.symm.trans hh.1)))
            clear h4 HB0
            go_wp2
            go_ret
            exact ⟨_, _, _, rfl, by rw [HE.out]; exact ownLI_lit _ _ B1.size, B1.alloc B1.size _⟩
        · have hltB : decide ((k : Int) < (m : Int)) = false := by simp; omega
          obtain rfl : k = m := by omega
          have HOK := Lib.hid (show ∀ x ∈ cl, clmOk x from by
            have := HK.out
            rw [List.take_of_length_le (by rw [HLL.out]; omega)] at this
            exact this)
          have HE := Lib.hid (HN.out.next HLL.out HOK.out)
          have HF := Lib.hid (HN.out.first)
          go_wp2_with (fail)
          refine (specFirstClaims_w (nz := (k : Int)) (by omega)).mono ?_
          rintro e w2 ⟨A2, n2, c2, rfl, L2, B2⟩
          rw [HF.out] at L2
          obtain rfl : n2 = k := by have := L2.has.len; rw [firstL_len] at this; exact this.symm
          have s2 := B2.size
          have D2 := B1.trans (B2.mono s1)
          have L2' := L2.mono s1
          clear L2 B2 HF
          obtain ⟨g, hA2, hg0, hg1⟩ := (show ∃ g, A2 = some ⟨g, 0, none⟩ ∧ w.heap.size ≤ g ∧ g < w2.heap.size from by obtain ⟨vs, hvs⟩ := L2'; exact hvs.1.head (by omega))
          subst hA2
          rw [← outC_zero n2 cs cl] at L2'
          go_wp2
          go_loopw [9] (fun t wx => ∃ b : Nat, b ≤ n2 ∧ t = .int .i64 (b : Int) ∧ OwnLI wx w.heap.size (some ⟨g, 0, none⟩) n2 c2 (outC n2 cs cl b 0) ∧ Below w.heap.size w wx) (fun t _ => n2 - (intOf t).toNat)
          case atStart => exact ⟨0, Nat.zero_le _, rfl, L2', D2⟩
          case round =>
            obtain ⟨b, hb, rfl, L3, D3⟩ := hrel
            by_cases hbm : b < n2
            · have hbmB : decide ((b : Int) < (n2 : Int)) = true := by simp; omega
              go_wp2
              go_loopw [10] (fun t wx => ∃ i : Nat, i ≤ n ∧ t = .int .i64 (i : Int) ∧ OwnLI wx w.heap.size (some ⟨g, 0, none⟩) n2 c2 (outC n2 cs cl b i) ∧ Below w.heap.size w wx) (fun t _ => n - (intOf t).toNat)
              case atStart => exact ⟨0, Nat.zero_le _, rfl, L3, D3⟩
              case round =>
                obtain ⟨i, hi, rfl, L4, D4⟩ := hrel
                have hge := D4.size
                by_cases hlt : i < n
                · have hltB : decide ((i : Int) < (n : Int)) = true := by simp; omega
                  have hil : i < cs.length := by rw [hnl]; exact hlt
                  obtain ⟨bb, o, rfl, hbl, e0, e1, e2⟩ := h.cab7 hlt
                  have d0 := (D4.cell (p := ⟨bb, o + i * 3, none⟩) hbl).trans e0
                  have d1 := (D4.cell (p := ⟨bb, o + i * 3 + 1, none⟩) hbl).trans e1
                  have d2 := (D4.cell (p := ⟨bb, o + i * 3 + 2, none⟩) hbl).trans e2
                  have C3 := Lib.hid (l7Other_any (cab cs i) b wr)
                  cases ho : otherN (cab cs i) b with
                  | none =>
                    rw [othI_none ho] at C3
                    have HS := Lib.hid (outC_stay (n := n2) (cs := cs) (cl := cl) (b := b) (i := i) (by rw [bestTo]; simp [candL, ho]))
                    clear ho hil
                    generalize cab cs i = cc at *
                    go_wp2_with (fail)
                    refine C3.out.mono ?_
                    rintro e w4 ⟨rfl, B4⟩
                    have D5 := D4.trans (B4.mono hge)
                    have L5 := L4.bel B4
                    clear d0 d1 d2
                    go_wp2
                    go_roundw
                    case rel => exact ⟨i + 1, by omega, by go_num, by rw [HS.out]; exact L5, D5⟩
                    case measure => simp [intOf]; omega
                  | some x =>
                    rw [othI_some ho] at C3
                    have hok := (other_edge hil ho).ok HC.out
                    have hx : x < n2 := hok.2.1
                    have hc99 : (cab cs i).2.2 ≤ 99 := (HC.out _ (cab_mem hil)).2.2.2.2
                    obtain ⟨b6, o6, X, q, r, y, hA6, hbl6, hy, hc6, hqr, hX⟩ := hl.at_ hx
                    have hyk := HOK.out y (List.mem_of_getElem? hy)
                    obtain rfl : q = 4 := by have := hX.len; rw [← this]; exact hyk.1
                    have hyb := hyk.2
                    obtain ⟨b7, o7, hA7, hb7, c70⟩ := has_gi hX (i := 0) (by omega)
                    obtain ⟨b8, o8, hA8, _, c71⟩ := has_gi hX (i := 1) (by omega)
                    subst hA6 hA7
                    injection hA8 with hA8
                    injection hA8 with q1 q2
                    subst q1 q2
                    have HBT := Lib.hid (show bestTo cs cl b (i + 1) = if less4 [gi y 0, gi y 1 + ((cab cs i).2.2 : Nat), (x : Int), (i : Int)] (bestTo cs cl b i) then [gi y 0, gi y 1 + ((cab cs i).2.2 : Nat), (x : Int), (i : Int)] else bestTo cs cl b i by
                      rw [bestTo, cand_at ho, clm_at hy])
                    have hB4 := bestTo_four cs cl b i
                    have HAT := Lib.hid (show (outC n2 cs cl b i)[b]? = some (bestTo cs cl b i) by rw [outC_at hbm, if_neg (by omega), if_pos rfl])
                    have HST := Lib.hid (outC_stay (n := n2) (cs := cs) (cl := cl) (b := b) (i := i))
                    have HSE := Lib.hid (outC_set (cs := cs) (cl := cl) (i := i) hbm)
                    clear ho hil hok hyk hy hX
                    obtain ⟨q3, hq3⟩ : ∃ q, (cab cs i).2.2 = q := ⟨_, rfl⟩
                    rw [hq3] at hc99 d2 e2 C3 HBT
                    clear hq3
                    generalize gi y 0 = y0 at *
                    generalize gi y 1 = y1 at *
                    have HWH := Lib.hid (show IntKind.i64.wrap (y1 + (q3 : Int)) = y1 + (q3 : Int) from IntWalk.i64_in _ (by omega))
                    have hx0B : decide ((x : Int) < 0) = false := by simp
                    generalize bestTo cs cl b (i + 1) = bn at *
                    generalize bestTo cs cl b i = bo at *
                    generalize cab cs i = cc at *
                    go_wp2_with (fail)
                    refine C3.out.mono ?_
                    rintro e w4 ⟨rfl, B4⟩
                    have D5 := D4.trans (B4.mono hge)
                    have L5 := L4.bel B4
                    clear d0 d1 d2
                    obtain ⟨V, hV⟩ : ∃ V, w4.drew = V := ⟨_, rfl⟩
                    have B5 : Below w4.heap.size w4 V := hV ▸ below_drewN _ 1
                    have D6 := D5.trans (B5.mono D5.size)
                    have L6 := L5.bel B5
                    have x0 := (D6.cell (p := ⟨b6, o6 + x, none⟩) hbl6).trans hc6
                    have x1 := (D6.cell (p := ⟨b7, o7 + 0, none⟩) hb7).trans c70
                    have x2 := (D6.cell (p := ⟨b7, o7 + 1, none⟩) hb7).trans c71
                    have x3 := (D6.cell (p := ⟨bb, o + i * 3 + 2, none⟩) hbl).trans e2
                    rw [Nat.add_zero] at x1
                    have OX : Own (V.alloc (.cells #[.int .i64 y0, .int .i64 (y1 + (q3 : Int)), .int .i64 (x : Int), .int .i64 (i : Int)] 3)) V.heap.size 3 (some ⟨V.heap.size, 0, none⟩) 4 4 (ints .i64 [y0, y1 + (q3 : Int), (x : Int), (i : Int)]) := World.ownsRow_lit V #[.int .i64 y0, .int .i64 (y1 + (q3 : Int)), .int .i64 (x : Int), .int .i64 (i : Int)] 4 (Nat.le_refl _) (by unfold maxLen; omega) rfl
                    have BX : Below V.heap.size V (V.alloc (.cells #[.int .i64 y0, .int .i64 (y1 + (q3 : Int)), .int .i64 (x : Int), .int .i64 (i : Int)] 3)) := (Below.refl _ _).alloc (Nat.le_refl _) _
                    obtain ⟨WX, hWX⟩ : ∃ W, V.alloc (.cells #[.int .i64 y0, .int .i64 (y1 + (q3 : Int)), .int .i64 (x : Int), .int .i64 (i : Int)] 3) = W := ⟨_, rfl⟩
                    rw [hWX] at OX BX
                    have L7 := L6.bel BX
                    have D7 := D6.trans (BX.mono D6.size)
                    have s6 := D6.size
                    obtain ⟨b9, o9, Z, z1, z2, zs, hA9, hbl9, hz9, hc9, hz12, hZ⟩ := L7.has.at_ hbm
                    injection hA9 with hA9
                    injection hA9 with q1 q2
                    subst q1 q2
                    obtain rfl : bo = zs := by have := HAT.out; rw [hz9] at this; injection this with this; exact this.symm
                    obtain rfl : z1 = 4 := by have := hZ.len; omega
                    rw [Nat.zero_add] at hc9
                    have CL := Lib.hid (l7Less_any (c := 4) (d := z2) OX.has hZ)
                    have HWX := Lib.hid hWX
                    clear hz9 hZ
                    go_wp2
                    have HW := HWH.out
                    go_still_tail 20, (by kernel_rfl)
                    clear HW
                    have hWX := HWX.out
                    by_cases hls : less4 [y0, y1 + (q3 : Int), (x : Int), (i : Int)] bo
                    · rw [decide_eq_true hls] at CL
                      have HBN := Lib.hid (HBT.out.trans (if_pos hls))
                      clear hls
                      go_wp2_with (fail)
                      refine CL.out.mono ?_
                      rintro e w8 ⟨rfl, B8⟩
                      have P8 := OwnLI.put L6 (bel_trans BX B8) s6 (OX.bel B8) hbm
                      have D8 := D7.trans (B8.mono D7.size)
                      obtain ⟨vs8, hv8⟩ := L7.bel B8
                      obtain ⟨u8, hu8, hd8, hf8⟩ := hv8.1.at_ hbm
                      rw [← HBN.out, ← HSE.out] at P8
                      have D9 := D8.setCell (p := ⟨g, b, none⟩) hg0 (.slice (some ⟨V.heap.size, 0, none⟩) 4 4)
                      clear hu8 hv8 hc9
                      go_wp2
                      go_roundw
                      case rel => exact ⟨i + 1, by omega, by go_num, P8, D9⟩
                      case measure => simp [intOf]; omega
                    · rw [decide_eq_false hls] at CL
                      have HBN := Lib.hid (HST.out (HBT.out.trans (if_neg hls)))
                      clear hls
                      go_wp2_with (fail)
                      refine CL.out.mono ?_
                      rintro e w8 ⟨rfl, B8⟩
                      have L8 := L7.bel B8
                      have D8 := D7.trans (B8.mono D7.size)
                      go_wp2
                      go_roundw
                      case rel => exact ⟨i + 1, by omega, by go_num, by rw [HBN.out]; exact L8, D8⟩
                      case measure => simp [intOf]; omega
                · have hltB : decide ((i : Int) < (n : Int)) = false := by simp; omega
                  obtain rfl : i = n := by omega
                  rw [← hnl, outC_next] at L4
                  go_wp2
                  go_roundw
                  case rel => exact ⟨b + 1, by omega, by go_num, L4, D4⟩
                  case measure => simp [intOf]; omega
            · have hbmB : decide ((b : Int) < (n2 : Int)) = false := by simp; omega
              obtain rfl : b = n2 := by omega
              rw [outC_end] at L3
              go_wp2
              go_ret
              exact ⟨_, _, _, rfl, by rw [HE.out]; exact L3, D3⟩
    · have hmB : ((m : Int) != nz) = true := by simp; omega
      have HE := Lib.hid (show nextI nz ks cl = [] by unfold nextI; rw [if_neg (fun hh => hmn (by have := hh.2.1; rw [HLL.out] at this; exact this))])
      clear hv
      go_enter Try.func40, Try.ntmps40
      go_wp2_with (fail)
      refine C1.out.mono ?_
      rintro e w1 ⟨rfl, B1⟩
      go_wp2
      go_ret
      exact ⟨_, _, _, rfl, by rw [HE.out]; exact ownLI_lit _ _ B1.size, B1.alloc B1.size _⟩
  · have HE := Lib.hid (show nextI nz ks cl = [] by unfold nextI; rw [if_neg (fun hh => hv hh.1)])
    have C1 := Lib.hid (specCablesValid_b (c := c) h hn (decide_eq_false hv))
    clear hv
    go_enter Try.func40, Try.ntmps40
    go_wp2_with (fail)
    refine C1.out.mono ?_
    rintro e w1 ⟨rfl, B1⟩
    go_wp2
    go_ret
    exact ⟨_, _, _, rfl, by rw [HE.out]; exact ownLI_lit _ _ B1.size, B1.alloc B1.size _⟩
set_option maxRecDepth 100000 in
set_option maxHeartbeats 4000000 in
theorem specClaimsAfter_w {A : Option Addr} {n c : Nat} {ks : List Tri} {nz r : Int} {w : World} (h : HasK w A n ks) (hn : n ≤ 16777216) :
    Calls Try.prog 34 #[.int .i64 nz, .slice A n c, .int .i64 r] w fun e w' => ∃ A' n' c', e = .returned (.slice A' n' c') ∧ OwnLI w' w.heap.size A' n' c' (afterI nz ks r) ∧ Below w.heap.size w w' := by
  by_cases hv : kOk nz ks
  · have C1 := Lib.hid (specCablesValid_b (c := c) h hn (decide_eq_true hv))
    by_cases hr : 0 ≤ r ∧ r ≤ 100
    · obtain ⟨x, rfl⟩ := Int.eq_ofNat_of_zero_le hr.1
      have N := kOk_yes hv
      generalize nz.toNat = m at N
      generalize ks.map cabOf = cs at N
      have hx : x ≤ 100 := by omega
      have HE := Lib.hid (N.after hx)
      have HN := Lib.hid N
      have HF := Lib.hid N.first
      have hm8 := N.le
      have hz := hv.1
      have C2 := Lib.hid (fun W => l1In_yes (x : Int) 0 100 W hr.1 hr.2)
      clear hv hr N
      go_enter Try.func34, Try.ntmps34
      go_wp2_with (fail)
      refine C1.out.mono ?_
      rintro e w1 ⟨rfl, B1⟩
      go_wp2_with (fail)
      refine (C2.out _).mono ?_
      rintro e w2 ⟨rfl, rfl⟩
      have s1 := B1.size
      go_wp2_with (fail)
      refine (specFirstClaims_w (nz := nz) (by omega)).mono ?_
      rintro e w2 ⟨A2, n2, c2, rfl, L2, B2⟩
      rw [HF.out] at L2
      obtain rfl : n2 = m := by have := L2.has.len; rw [firstL_len] at this; exact this.symm
      have D2 := B1.trans (B2.mono s1)
      have L2' : OwnLI w2 w.heap.size A2 n2 c2 (afterN n2 cs 0) := L2.mono s1
      clear L2 B2 HF C1 C2
      go_wp2
      go_loopw [7, 21] (fun v t wx => ∃ (k : Nat) (A' : Option Addr) (c' : Nat), k ≤ x ∧ t = .int .i64 (k : Int) ∧ v = .slice A' n2 c' ∧ OwnLI wx w.heap.size A' n2 c' (afterN n2 cs k) ∧ Below w.heap.size w wx) (fun _ t _ => x - (intOf t).toNat)
      case atStart => exact ⟨0, _, _, Nat.zero_le _, rfl, rfl, L2', D2⟩
      case round =>
        obtain ⟨k, A3, c3, hk, rfl, rfl, L3, D3⟩ := hrel
        have s3 := D3.size
        by_cases hlt : k < x
        · have hltB : decide ((k : Int) < (x : Int)) = true := by simp; omega
          have HS := Lib.hid (HN.out.next (after_len n2 cs k) (HN.out.clms (show k ≤ 100 by omega)))
          have HS2 := Lib.hid (show nextN n2 cs (afterN n2 cs k) = afterN n2 cs (k + 1) from rfl)
          go_wp2_with (fail)
          refine (specNextClaims_w (h.bel D3) L3.has hn (by omega)).mono ?_
          rintro e w4 ⟨A4, n4, c4, rfl, L4, B4⟩
          rw [HS.out, HS2.out] at L4
          obtain rfl : n4 = n2 := by have := L4.has.len; rw [after_len] at this; exact this.symm
          have L5 := L4.mono s3
          have D5 := D3.trans (B4.mono s3)
          clear L4 B4
          go_wp2
          go_roundw
          case rel => exact ⟨k + 1, _, _, by omega, by go_num, rfl, L5, D5⟩
          case measure => simp [intOf]; omega
        · have hltB : decide ((k : Int) < (x : Int)) = false := by simp; omega
          obtain rfl : k = x := by omega
          go_wp2
          go_ret
          exact ⟨_, _, _, rfl, by rw [HE.out]; exact L3, D3⟩
    · have HE := Lib.hid (show afterI nz ks r = [] by unfold afterI; rw [if_neg (fun hh => hr hh.2)])
      have C2 := Lib.hid (fun W => l1In_no r 0 100 W hr)
      clear hv hr
      go_enter Try.func34, Try.ntmps34
      go_wp2_with (fail)
      refine C1.out.mono ?_
      rintro e w1 ⟨rfl, B1⟩
      go_wp2_with (fail)
      refine (C2.out _).mono ?_
      rintro e w2 ⟨rfl, rfl⟩
      go_wp2
      go_ret
      exact ⟨_, _, _, rfl, by rw [HE.out]; exact ownLI_lit _ _ B1.size, B1.alloc B1.size _⟩
  · have HE := Lib.hid (show afterI nz ks r = [] by unfold afterI; rw [if_neg (fun hh => hv hh.1)])
    have C1 := Lib.hid (specCablesValid_b (c := c) h hn (decide_eq_false hv))
    clear hv
    go_enter Try.func34, Try.ntmps34
    go_wp2_with (fail)
    refine C1.out.mono ?_
    rintro e w1 ⟨rfl, B1⟩
    go_wp2
    go_ret
    exact ⟨_, _, _, rfl, by rw [HE.out]; exact ownLI_lit _ _ B1.size, B1.alloc B1.size _⟩
end Go.Proofs.Ytkmdpmhaljieaaa
