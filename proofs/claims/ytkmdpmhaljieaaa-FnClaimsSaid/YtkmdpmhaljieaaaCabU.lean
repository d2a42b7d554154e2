/-
  Chapter 7's model, up cables: what is proved here is what l7Up returns, and that it writes nothing that was there. Condition: cables as they may be.
-/
import Derived.Test.YtkmdpmhaljieaaaCabC
import Derived.Lib.Hide
import Derived.IntWalk
namespace Go.Proofs.Ytkmdpmhaljieaaa
open Go.RowKit

def optI : Option Nat → Int
  | some i => (i : Int)
  | none => -1
set_option maxRecDepth 100000 in
set_option maxHeartbeats 8000000 in
theorem l7Up_any {A B : Option Addr} {n c m d b : Nat} {cs : List Cab} {F : List Nat} {w : World} (h : HasK w A n (cs.map triOf)) (hF : Has w B m (cI F)) (hc : cabsOk m cs) (hcap : CapC F) (hn : n ≤ 20) (hb : b < m) :
    Calls Try.prog 69 #[.slice A n c, .slice B m d, .int .i64 (b : Int)] w fun e w' => e = .returned (.int .i64 (optI (upN cs F b))) ∧ Below w.heap.size w w' := by
  have HL := Lib.hid (show cs.length = n by have := h.1; rwa [List.length_map] at this)
  have HCC := Lib.hid hc
  have hvb := hcap b
  obtain ⟨gb, ob, rfl, hgb, cb⟩ := has_cI hF hb
  clear hc
  by_cases h0 : gn F b = 0
  · have HE := Lib.hid (show optI (upN cs F b) = -1 by unfold upN; rw [if_pos h0]; rfl)
    rw [h0] at cb
    clear h0
    go_enter Try.func69, Try.ntmps69
    go_wp2
    go_ret
    exact ⟨ret_int HE.out.symm, Below.refl _ _⟩
  · have HE := Lib.hid (show upN cs F b = upTo cs F b n by unfold upN; rw [if_neg h0, HL.out])
    have h0B : ((gn F b : Int) == 0) = false := by simp; omega
    clear h0
    go_enter Try.func69, Try.ntmps69
    go_wp2
    go_loopw [7, 8] (fun t i wr => ∃ k : Nat, k ≤ n ∧ i = .int .i64 (k : Int) ∧ t = .int .i64 (optI (upTo cs F b k)) ∧ Below w.heap.size w wr) (fun _ i _ => n - (intOf i).toNat)
    case atStart => exact ⟨0, Nat.zero_le _, rfl, rfl, Below.refl _ _⟩
    case round =>
      obtain ⟨k, hk, rfl, rfl, Bw⟩ := hrel
      by_cases hlt : k < n
      · have hltB : decide ((k : Int) < (n : Int)) = true := by simp; omega
        have hltL : k < cs.length := by rw [HL.out]; exact hlt
        obtain ⟨bb, o, rfl, hbl, e0, e1, e2⟩ := h.cab7 hlt
        have d0 := (Bw.cell (p := ⟨bb, o + k * 3, none⟩) hbl).trans e0
        have d1 := (Bw.cell (p := ⟨bb, o + k * 3 + 1, none⟩) hbl).trans e1
        have d2 := (Bw.cell (p := ⟨bb, o + k * 3 + 2, none⟩) hbl).trans e2
        have C1 := Lib.hid (l7Other_any (cab cs k) b wr)
        cases ho : otherN (cab cs k) b with
        | none =>
          rw [othI_none ho] at C1
          have HS := Lib.hid (show upTo cs F b (k + 1) = upTo cs F b k by rw [upTo, upStep, ho])
          clear ho
          generalize cab cs k = cc at *
          go_wp2_with (fail)
          refine C1.out.mono ?_
          rintro e w2 ⟨rfl, B2⟩
          have B3 := Bw.trans (B2.mono Bw.size)
          clear d0 d1 d2
          go_wp2
          go_quiet (fail)
          go_wp2
          have B4 := B3.trans (below_drewN (B := w.heap.size) _ nq)
          go_roundw
          case rel => exact ⟨k + 1, by omega, by go_num, by rw [HS.out], B4⟩
          case measure => simp [intOf]; omega
        | some x =>
          rw [othI_some ho] at C1
          have hok := (other_edge hltL ho).ok HCC.out
          have hx : x < m := hok.2.1
          have hcl := HCC.out _ (cab_mem hltL)
          have hc99 : (cab cs k).2.2 ≤ 99 := hcl.2.2.2.2
          have hvx := hcap x
          have cx : w.cell? ⟨gb, ob + x, none⟩ = some (.int .i64 (gn F x : Int)) := by
            obtain ⟨gx, ox, hA, _, cx⟩ := has_cI hF hx
            injection hA with hA; injection hA with q1 q2; subst q1 q2; exact cx
          have HU := Lib.hid (show upTo cs F b (k + 1) = if gn F x + (cab cs k).2.2 = gn F b then (match upTo cs F b k with | none => some k | some j => if x < (otherN (cab cs j) b).getD 0 then some k else some j) else upTo cs F b k by rw [upTo, upStep, ho]; rfl)
          have HP := Lib.hid (fun j (hj : upTo cs F b k = some j) => (upTo_spec cs F b k).2 j hj)
          clear ho hcl hok
          obtain ⟨q3, hq3⟩ : ∃ q, (cab cs k).2.2 = q := ⟨_, rfl⟩
          rw [hq3] at hc99 HU d2 e2 C1
          clear hq3
          have HWH := Lib.hid (show IntKind.i64.wrap ((gn F x : Int) + (q3 : Int)) = (gn F x : Int) + (q3 : Int) from IntWalk.i64_in _ (by omega))
          have hx0B : decide ((x : Int) < 0) = false := by simp
          by_cases heq : gn F x + q3 = gn F b
          · have heqB : ((gn F x : Int) + (q3 : Int) != (gn F b : Int)) = false := by simp; omega
            have HU2 := Lib.hid (HU.out.trans (if_pos heq))
            clear heq HU
            cases hj : upTo cs F b k with
            | none =>
              rw [hj] at HU2
              have HU3 := Lib.hid (show upTo cs F b (k + 1) = some k from HU2.out)
              clear hj HU2
              generalize hcc : cab cs k = cc at *
              go_wp2_with (fail)
              refine C1.out.mono ?_
              rintro e w2 ⟨rfl, B2⟩
              have B3 := Bw.trans (B2.mono Bw.size)
              have x1 := (B3.cell (p := ⟨gb, ob + x, none⟩) hgb).trans cx
              have x2 := (B3.cell (p := ⟨gb, ob + b, none⟩) hgb).trans cb
              have x3 := (B3.cell (p := ⟨bb, o + k * 3 + 2, none⟩) hbl).trans e2
              go_wp2
              have HW := HWH.out
              go_quiet (fail)
              clear HW
              have B4 := B3.trans (below_drewN (B := w.heap.size) w2 nq)
              go_wp2
              go_roundw
              case rel => exact ⟨k + 1, by omega, by go_num, by rw [HU3.out]; rfl, B4⟩
              case measure => simp [intOf]; omega
            | some j =>
              obtain ⟨hjk, y, hUC, _⟩ := HP.out j hj
              have hjn : j < n := by omega
              have hyo := hUC.1
              rw [hj] at HU2
              have HU3 := Lib.hid (show upTo cs F b (k + 1) = if x < y then some k else some j by rw [HU2.out]; simp only [hyo, Option.getD_some])
              obtain ⟨bj, oj, hAj, hblj, f0, f1, f2⟩ := h.cab7 hjn
              injection hAj with hAj
              injection hAj with q1 q2
              subst q1 q2
              have C2 := Lib.hid (fun W => l7Other_any (cab cs j) b W)
              rw [othI_some hyo] at C2
              have hj0B : decide ((j : Int) < 0) = false := by simp
              have hoi : optI (some j) = (j : Int) := rfl
              rw [hoi]
              clear hoi
              clear hj HU2 hUC hyo HP
              generalize cab cs j = cj at *
              generalize cab cs k = cc at *
              go_wp2_with (fail)
              refine C1.out.mono ?_
              rintro e w2 ⟨rfl, B2⟩
              have B3 := Bw.trans (B2.mono Bw.size)
              have x1 := (B3.cell (p := ⟨gb, ob + x, none⟩) hgb).trans cx
              have x2 := (B3.cell (p := ⟨gb, ob + b, none⟩) hgb).trans cb
              have x3 := (B3.cell (p := ⟨bb, o + k * 3 + 2, none⟩) hbl).trans e2
              go_wp2
              have HW := HWH.out
              go_quiet (fail)
              clear HW
              have B4 := B3.trans (below_drewN (B := w.heap.size) w2 nq)
              generalize w2.drewN nq = w4 at *
              have z0 := (B4.cell (p := ⟨bb, o + j * 3, none⟩) hbl).trans f0
              have z1 := (B4.cell (p := ⟨bb, o + j * 3 + 1, none⟩) hbl).trans f1
              have z2 := (B4.cell (p := ⟨bb, o + j * 3 + 2, none⟩) hbl).trans f2
              clear x1 x2 x3 heqB d0 d1 d2
              by_cases hxy : x < y
              · have hxyB : decide ((x : Int) < (y : Int)) = true := by simp; omega
                have hxyC : decide (x < y) = true := decide_eq_true hxy
                have HU4 := Lib.hid (HU3.out.trans (if_pos hxy))
                clear hxy HU3
                go_wp2_with (fail)
                refine (C2.out _).mono ?_
                rintro e w5 ⟨rfl, B5⟩
                have B6 := B4.trans (B5.mono B4.size)
                go_wp2
                go_roundw
                case rel => exact ⟨k + 1, by omega, by go_num, by rw [HU4.out]; rfl, B6⟩
                case measure => simp [intOf]; omega
              · have hxyB : decide ((x : Int) < (y : Int)) = false := by simp; omega
                have hxyC : decide (x < y) = false := decide_eq_false hxy
                have HU4 := Lib.hid (HU3.out.trans (if_neg hxy))
                clear hxy HU3
                go_wp2_with (fail)
                refine (C2.out _).mono ?_
                rintro e w5 ⟨rfl, B5⟩
                have B6 := B4.trans (B5.mono B4.size)
                go_wp2
                go_roundw
                case rel => exact ⟨k + 1, by omega, by go_num, by rw [HU4.out]; rfl, B6⟩
                case measure => simp [intOf]; omega
          · have heqB : ((gn F x : Int) + (q3 : Int) != (gn F b : Int)) = true := by simp; omega
            have HU2 := Lib.hid (HU.out.trans (if_neg heq))
            clear heq HU HP
            generalize cab cs k = cc at *
            go_wp2_with (fail)
            refine C1.out.mono ?_
            rintro e w2 ⟨rfl, B2⟩
            have B3 := Bw.trans (B2.mono Bw.size)
            have x1 := (B3.cell (p := ⟨gb, ob + x, none⟩) hgb).trans cx
            have x2 := (B3.cell (p := ⟨gb, ob + b, none⟩) hgb).trans cb
            have x3 := (B3.cell (p := ⟨bb, o + k * 3 + 2, none⟩) hbl).trans e2
            go_wp2
            have HW := HWH.out
            go_quiet (fail)
            clear HW
            have B4 := B3.trans (below_drewN (B := w.heap.size) w2 nq)
            go_wp2
            go_roundw
            case rel => exact ⟨k + 1, by omega, by go_num, by rw [HU2.out], B4⟩
            case measure => simp [intOf]; omega
      · have hltB : decide ((k : Int) < (n : Int)) = false := by simp; omega
        obtain rfl : k = n := by omega
        go_wp2
        go_ret
        exact ⟨ret_int (by rw [HE.out]), Bw⟩
end Go.Proofs.Ytkmdpmhaljieaaa
