/-
  Chapter 16's program, several ways: what is proved here is what wiresOfAll and wireWaitsOf return, and that they write nothing that was there. The table of steps holds what the program's text lays; lengths up to 2^24.
-/
import Derived.Test.YthcfjnedpffbbaaDoorImp16g
import Derived.Test.YthcfjnedpffbbaaDoorFabZ
import Derived.Test.YthcfjnedpffbbaaDoorFabC
namespace Go.Proofs.YthcfjnedpffbbaaDoor
open Go.RowKit

theorem made_nils16 (m : Nat) : (madeCells (Value.cells (.slice none 0 0)) (m * 1)).toList = List.replicate m (.slice none 0 0) := by
  rw [Nat.mul_one]; exact toList_madeCells_one _ _
/- The lists of wires of ways, as ints. -/
def natsAll (uss : List (List Nat)) : List (List Int) := uss.map nats
set_option maxRecDepth 100000 in
set_option maxHeartbeats 8000000 in
theorem wiresOfAll_any {A : Option Addr} {n c : Nat} {kss : List (List Int)} {w h : Int} {W : World} {v : Bool} (hT : StepsIn W) (hA : HasLI W A n kss) (hn : n ≤ 16777216) (hlen : ∀ ks ∈ kss, ks.length ≤ 16777216) (hv : decide (WaysOk w h kss) = v) :
    Calls Tryd.prog 64 #[.agg #[.int .i64 w, .int .i64 h], .slice A n c] W fun e W' => ∃ A' n' c', e = .returned (.tuple #[.slice A' n' c', .bool v]) ∧ (v = true → OwnLI W' W.heap.size A' n' c' (natsAll (wiresAll w.toNat kss))) ∧ Below W.heap.size W W' := by
  obtain ⟨i0, hi, hz0, hz1, hz2⟩ := info_parts Tryd.infoSlI
  have HL := Lib.hid hA.len
  have HV := Lib.hid hv
  have HN := Lib.hid hlen
  obtain ⟨Wa, hWa⟩ : ∃ Wa, W.alloc (.cells #[.int .i64 w, .int .i64 h] 51) = Wa := ⟨_, rfl⟩
  have Ka : Duo2 Wa W.heap.size 51 w h := hWa ▸ duo2_alloc W _ _ _
  have Ba : Below W.heap.size W Wa := hWa ▸ below_alloc16 W _
  obtain ⟨v0, v1⟩ := Ka.cells
  clear hv hlen
  by_cases hf : okWH w h
  rotate_left
  · have C1 := Lib.hid (fun W => isFabric_b (W := W) (decide_eq_false hf))
    have HE := Lib.hid (show false = v by rw [← HV.out]; exact (decide_eq_false (fun k : WaysOk w h kss => hf k.1)).symm)
    clear hf
    go_enter Tryd.func64, Tryd.ntmps64
    go_wp2_with (fail)
    refine (C1.out _).mono ?_
    rintro e w1 ⟨rfl, B1⟩
    go_wp2
    go_ret2
    exact ⟨none, 0, 0, ret_sb HE.out, fun hh => absurd (HE.out.trans hh) (by decide), bel_trans Ba B1⟩
  have C1 := Lib.hid (fun W => isFabric_b (W := W) (decide_eq_true hf))
  by_cases h12 : n ≤ 12
  rotate_left
  · have b1 : decide ((n : Int) > 12) = true := by simp; omega
    have b2 : decide (12 < (n : Int)) = true := by simp; omega
    have b3 : decide (12 < n) = true := by simp; omega
    have HE := Lib.hid (show false = v by rw [← HV.out]; exact (decide_eq_false (fun k : WaysOk w h kss => h12 (by have := k.2.1; have := HL.out; omega))).symm)
    clear hf h12
    go_enter Tryd.func64, Tryd.ntmps64
    go_wp2_with (fail)
    refine (C1.out _).mono ?_
    rintro e w1 ⟨rfl, B1⟩
    go_wp2
    go_ret2
    exact ⟨none, 0, 0, ret_sb HE.out, fun hh => absurd (HE.out.trans hh) (by decide), bel_trans Ba B1⟩
  have b1 : decide ((n : Int) > 12) = false := by simp; omega
  have b2 : decide (12 < (n : Int)) = false := by simp; omega
  have b3 : decide (12 < n) = false := by simp; omega
  have HF := Lib.hid hf
  have H12 := Lib.hid h12
  clear hf
  go_enter Tryd.func64, Tryd.ntmps64
  go_wp2_with (fail)
  refine (C1.out _).mono ?_
  rintro e w1 ⟨rfl, B1⟩
  have T1 := bel_trans Ba B1
  have K1 := Ka.bel B1
  have s1 := T1.size
  clear v0 v1 Ka Ba B1 C1 hWa
  go_wp2_with (at_make; refine wpList_make_full _ rfl _ _ 33 rfl W.heap.size 25 i0 (.slice none 0 0) 1 Tryd.underlying33 hi hz0 hz1 .i64 .i64 _ _ n rfl rfl (by omega) (by omega) (by rw [hz2]; omega) (by unfold maxLen; omega) s1 ?_; intro w2 hown hgrow)
  rw [made_nils16] at hown
  have hL0 := ownLI_made hown
  have B2 : Below w1.heap.size w1 w2 := below_of_grown hgrow (Nat.le_refl _) (fun k hk => by cases hk)
  have T2 := bel_trans T1 B2
  have K2 := K1.bel B2
  obtain ⟨g, hg⟩ : ∃ g, w1.heap.size = g := ⟨_, rfl⟩
  have hgW : W.heap.size < g := by have := K1.lt; omega
  rw [hg] at hL0 ⊢
  clear hg B2 hgrow K1 T1 hown
  go_loopw [24] (fun t wr => ∃ k : Nat, k ≤ n ∧ t = .int .i64 (k : Int) ∧ OwnLI wr W.heap.size (some ⟨g, 0, none⟩) n n ((natsAll (wiresAll w.toNat kss)).take k ++ List.replicate (n - k) []) ∧ Hid (∀ ks ∈ kss.take k, WayOk w h ks) ∧ Duo2 wr W.heap.size 51 w h ∧ Below W.heap.size W wr) (fun t _ => n - (intOf t).toNat)
  case atStart =>
    have h1 : Hid (∀ ks ∈ kss.take 0, WayOk w h ks) := fun ks hk => by simp at hk
    exact ⟨0, by omega, rfl, by simpa using hL0, h1, K2, T2⟩
  case round =>
    obtain ⟨k, hk, rfl, O, HA2, K, T⟩ := hrel
    have hge := T.size
    by_cases hlt : k < n
    · have hltB : decide ((k : Int) < (n : Int)) = true := by simp; omega
      obtain ⟨b, o, A2, m, d, ks, rfl, hbl, hx, hc, hmd, hH⟩ := (hA.bel T).at_ hlt
      have hmem : ks ∈ kss := List.mem_of_getElem? hx
      have hm : m ≤ 16777216 := by rw [← hH.len]; exact HN.out ks hmem
      obtain ⟨v0, v1⟩ := K.cells
      by_cases kz : WayOk w h ks
      rotate_left
      · have C := Lib.hid (wiresOf_any (c := d) (hT.bel T) hH hm (decide_eq_false kz))
        have HE := Lib.hid (show false = v by rw [← HV.out]; exact (decide_eq_false (fun hh : WaysOk w h kss => kz (hh.2.2 ks hmem))).symm)
        clear kz hx hmem hH
        go_wp2_with (fail)
        refine C.out.mono ?_
        rintro e w5 ⟨A5, n5, c5, rfl, _, B5⟩
        go_wp2
        go_ret2
        exact ⟨none, 0, 0, ret_sb HE.out, fun hh => absurd (HE.out.trans hh) (by decide), bel_trans T B5⟩
      have C := Lib.hid (wiresOf_any (c := d) (hT.bel T) hH hm (decide_eq_true kz))
      have HS : Hid (∀ ks ∈ kss.take (k + 1), WayOk w h ks) := by
        show ∀ ks ∈ kss.take (k + 1), WayOk w h ks
        intro q hq
        rw [List.take_add_one, hx] at hq
        rcases List.mem_append.1 hq with hq | hq
        · exact HA2.out q hq
        · simp at hq; subst hq; exact kz
      have HST := Lib.hid (set_take (natsAll (wiresAll w.toNat kss)) [] k n (by unfold natsAll; rw [List.length_map, wiresAll_len]; exact HL.out) hlt (nats (wiresN w.toNat ks)) (by unfold natsAll wiresAll; rw [List.getElem?_map, List.getElem?_map, hx]; rfl))
      clear kz hx hmem hH
      go_wp2_with (fail)
      refine C.out.mono ?_
      rintro e w5 ⟨A5, n5, c5, rfl, O5, B5⟩
      have O5 := O5 trivial
      have P5 := OwnLI.put O B5 hge O5 hlt
      rw [HST.out] at P5
      obtain ⟨vs, hvs⟩ := O.bel B5
      obtain ⟨u, hu, hd, hfz⟩ := hvs.1.at_ hlt
      have K5 := K.bel B5
      have T5 := bel_trans T B5
      have K6 : Duo2 (w5.setCell ⟨g, k, none⟩ (.slice A5 n5 c5)) W.heap.size 51 w h := K5.grown (row := some g) ⟨rfl, rfl, rfl, by simp, fun i _ hi => heap_setCell_other w5 ⟨g, k, none⟩ i _ (fun e => hi (by simp [e]))⟩ (fun e => by injection e; omega)
      have T6 := T5.setCell (p := ⟨g, k, none⟩) (show W.heap.size ≤ g by omega) (.slice A5 n5 c5)
      have HO := Lib.hid P5
      have HK := Lib.hid K6
      have HT6 := Lib.hid T6
      clear P5 K6 T6 hu hvs
      go_wp2
      go_roundw
      case rel => exact ⟨k + 1, by omega, by go_num, HO.out, HS, HK.out, HT6.out⟩
      case measure => simp [intOf]; omega
    · have hltB : decide ((k : Int) < (n : Int)) = false := by simp; omega
      obtain rfl : k = n := by omega
      have HE : Hid (true = v) := by
        show true = v
        rw [← HV.out]
        have h1 := HA2.out
        rw [List.take_of_length_le (by have := HL.out; omega)] at h1
        exact (decide_eq_true (show WaysOk w h kss from ⟨HF.out, by have := HL.out; have := H12.out; omega, h1⟩)).symm
      rw [Nat.sub_self, List.take_of_length_le (by unfold natsAll; rw [List.length_map, wiresAll_len]; have := HL.out; omega)] at O
      go_wp2
      go_ret2
      exact ⟨_, _, _, ret_sb HE.out, fun _ => by simpa using O, T⟩
end Go.Proofs.YthcfjnedpffbbaaDoor
