/-
  RunBridge of the model: what is proved here is what it returns, each slice in memory of its own, and that it writes nothing that was there. Condition: lengths up to 2^24.
-/
import Derived.Test.YtmnhgghnaklneaaHops
import Derived.Test.YtmnhgghnaklneaaListI
namespace Go.Proofs.Ytmnhgghnaklneaa
open Go.RowKit

/-- The slice at T is none of those of a list. -/
def Off (T : Option Addr) (vs : List Value) : Prop := ∀ v ∈ vs, ∀ b, v.ownBlock = some b → ∀ ad, T = some ad → ad.block ≠ b
theorem off_nil (T : Option Addr) : Off T [] := fun v hv => by cases hv
theorem Off.snoc {T X : Option Addr} {vs : List Value} {m d : Nat} (h : Off T vs) (hx : ∀ a1 a2, T = some a1 → X = some a2 → a1.block ≠ a2.block) : Off T (vs ++ [.slice X m d]) := fun v hv b hb ad ha => by
  rcases List.mem_append.1 hv with hv | hv
  · exact h v hv b hb ad ha
  · rw [List.mem_singleton.1 hv] at hb
    cases X with
    | none => cases hb
    | some a2 =>
      have : a2.block = b := by simpa [Value.ownBlock] using hb
      rw [← this]; exact hx ad a2 ha rfl
/-- Slices of two kinds of elements never lie in one block. -/
theorem own_apart {w : World} {lo lo' : Nat} {e e' : TypeId} {A B : Option Addr} {n c m d : Nat} {xs ys : List Value} (h : Own w lo e A n c xs) (k : Own w lo' e' B m d ys) (he : e ≠ e') : ∀ a, A = some a → some a.block ≠ B.map (·.block) := by
  intro a ha hb
  subst ha
  cases B with
  | none => cases hb
  | some b =>
    have hbb : a.block = b.block := by simpa using hb
    rcases h.2 with ⟨hv, _⟩ | ⟨g, cap, cur, hv, _, hgg, _⟩
    · cases hv
    · rcases k.2 with ⟨kv, _⟩ | ⟨g', cap', cur', kv, _, kgg, _⟩
      · cases kv
      · injection hv with hv; injection hv with hv
        injection kv with kv; injection kv with kv
        have h1 : g = g' := by rw [hv, kv] at hbb; exact hbb
        subst h1
        rw [hgg] at kgg
        injection kgg with kk
        injection kk with _ kk
        exact he kk
/-- What RunBridge returns. -/
def RunRes (w w' : World) (e : Ending) (ports : Int) (hs : List Hop3) : Prop :=
  ∃ A1 n1 c1 A2 n2 c2 vs, e = .returned (.tuple #[.slice A1 n1 c1, .slice A2 n2 c2, .bool (runB ports hs)]) ∧ Own w' w.heap.size 3 A1 n1 c1 (ints .i64 (runT ports hs)) ∧ OwnVI w' w.heap.size A2 n2 c2 vs (runO ports hs) ∧ Off A1 vs ∧ Below w.heap.size w w'
theorem take_snoc {hs : List Hop3} {k : Nat} {x : Hop3} (h : hs[k]? = some x) : hs.take (k + 1) = hs.take k ++ [x] := by rw [List.take_add_one, h]; rfl
theorem runTo_none {ports : Int} {t : List Int} {hs : List Hop3} {k : Nat} (h : runTo ports t (hs.take k) = none) : runTo ports t hs = none := by
  have e : hs = hs.take k ++ hs.drop k := (List.take_append_drop k hs).symm
  rw [e]
  generalize hs.take k = us at *
  generalize hs.drop k = bs at *
  clear e
  induction bs generalizing us with
  | nil => rwa [List.append_nil]
  | cons b bs ih =>
    have : us ++ b :: bs = (us ++ [b]) ++ bs := by simp
    rw [this]
    apply ih
    rw [runTo_snoc, h]; rfl

set_option maxHeartbeats 4000000 in
theorem specRunBridge_w {A : Option Addr} {n c : Nat} {ports : Int} {hs : List Hop3} {w : World} (h : HasH w A n hs) (hn : n ≤ 16777216) :
    Calls Try.prog 29 #[.int .i64 ports, .slice A n c] w fun e w' => RunRes w w' e ports hs := by
  obtain ⟨j0, hj, hy0, hy1, hy2⟩ := info_parts Try.infoSlI
  have HLN := Lib.hid h.1
  go_enter Try.func29, Try.ntmps29
  go_wp2_with (fail)
  refine (specFreshTable_w w).mono ?_
  rintro e w1 ⟨A1, c1, rfl, O1, B1⟩
  have s1 := B1.size
  have D1 : Below w.heap.size w (w1.alloc (.cells #[] 23)) := B1.alloc s1 _
  have L1 : OwnVI (w1.alloc (.cells #[] 23)) w.heap.size (some ⟨w1.heap.size, 0, none⟩) 0 0 [] [] := ownVI_lit w1 _ s1
  have O1' : Own (w1.alloc (.cells #[] 23)) w.heap.size 3 A1 15 c1 (ints .i64 freshL) := O1.bel ((Below.refl _ _).alloc (Nat.le_refl _) _)
  -- the two empty answers
  have bad : runR ports hs = none → ∀ W : World, Below w.heap.size w W → RunRes w ((W.alloc (.cells #[] 3)).alloc (.cells #[] 23)) (.returned (.tuple #[.slice (some ⟨W.heap.size, 0, none⟩) 0 0, .slice (some ⟨(W.alloc (.cells #[] 3)).heap.size, 0, none⟩) 0 0, .bool false])) ports hs := fun hr W hW => by
    have s := hW.size
    have r1 : runT ports hs = [] := by unfold runT; rw [hr]; rfl
    have r2 : runO ports hs = [] := by unfold runO; rw [hr]; rfl
    have r3 : runB ports hs = false := by unfold runB; rw [hr]; rfl
    refine ⟨_, _, _, _, _, _, [], by rw [r3], ?_, ?_, off_nil _, (hW.alloc s _).alloc (by simp; omega) _⟩
    · rw [r1]
      have E : Own (W.alloc (.cells #[] 3)) w.heap.size 3 (some ⟨W.heap.size, 0, none⟩) 0 0 (ints .i64 []) := World.ownsRow_lit W #[] 0 s (by unfold maxLen; omega) rfl
      exact E.bel ((Below.refl _ _).alloc (Nat.le_refl _) _)
    · rw [r2]; exact ownVI_lit _ _ (by simp; omega)
  have HBAD := Lib.hid bad
  clear bad
  by_cases hp : 1 ≤ ports ∧ ports ≤ 6
  · have C1 := Lib.hid (l1In_yes ports 1 6 (w1.alloc (.cells #[] 23)) hp.1 hp.2)
    have HFO := Lib.hid (fresh_ok hp)
    by_cases h6 : n ≤ 60
    · have h6B : decide ((n : Int) > 60) = false := by simp; omega
      have h6C : decide (60 < (n : Int)) = false := by simp; omega
      have HR := Lib.hid (show runR ports hs = runTo ports freshL hs by unfold runR; rw [if_pos ⟨hp, by rw [HLN.out]; exact h6⟩])
      clear hp
      go_wp2_with (fail)
      refine C1.out.mono ?_
      rintro e w2 ⟨rfl, rfl⟩
      go_wp2
      go_loopw [7, 8, 9] (fun tv v t wr => ∃ (k : Nat) (T : Option Addr) (m d : Nat) (A' : Option Addr) (q c' : Nat) (vs : List Value) (ts : List Int) (os : List (List Int)), k ≤ n ∧ m ≤ 16777216 ∧ q ≤ k ∧ t = .int .i64 (k : Int) ∧ tv = .slice T m d ∧ v = .slice A' q c' ∧ Own wr w.heap.size 3 T m d (ints .i64 ts) ∧ OwnVI wr w.heap.size A' q c' vs os ∧ Off T vs ∧ Hid (runTo ports freshL (hs.take k) = some (ts, os)) ∧ Below w.heap.size w wr) (fun _ _ t _ => n - (intOf t).toNat)
      case atStart => exact ⟨0, _, 15, _, _, 0, _, [], freshL, [], Nat.zero_le _, by omega, by omega, rfl, rfl, rfl, O1', L1, off_nil _, Lib.hid rfl, D1⟩
      case round =>
        obtain ⟨k, T, m, d, A', q, c', vs, ts, os, hk, hm, hq, rfl, rfl, rfl, OT, OV, OF, HX, B3⟩ := hrel
        have hge := B3.size
        by_cases hlt : k < n
        · have hltB : decide ((k : Int) < (n : Int)) = true := by simp; omega
          obtain ⟨b, o, f, t, p, rfl, hbl, hx, d0, d1, d2⟩ := (h.bel B3).at_ hlt
          have HT := Lib.hid (take_snoc hx)
          have HS := Lib.hid (runTo_snoc ports freshL (hs.take k) (f, t, p))
          clear hx
          go_wp2_with (fail)
          refine (specBridgeStep_w OT.has hm).mono ?_
          rintro e w4 h4
          unfold StepR at h4
          obtain ⟨A4, n4, c4, A5, n5, c5, rfl, O4, O5, hap, B4⟩ := h4
          have s4 := B4.size
          by_cases hst : stepOk ts ports (f, t, p)
          · have hd : decide (stepOk ts ports (f, t, p)) = true := decide_eq_true hst
            have e1 : stepL ts ports (f, t, p) = stepT ts (f, t, p) := by unfold stepL; rw [if_pos hst]
            have e2 : outsL ts ports (f, t, p) = portsL (stepT ts (f, t, p)) ports t p := by unfold outsL; rw [if_pos hst]
            rw [hd]
            rw [e1] at O4
            rw [e2] at O5
            have HX2 : Hid (runTo ports freshL (hs.take (k + 1)) = some (stepT ts (f, t, p), os ++ [portsL (stepT ts (f, t, p)) ports t p])) := by
              rw [HT.out]
              have := HS.out
              rw [HX.out] at this
              simp only [Option.bind_some] at this
              rw [if_pos hst] at this
              exact this
            have OV4 := OV.bel B4
            have hn4 : n4 ≤ 16777216 := by
              have h1 := O4.has.len
              have h2 : (stepT ts (f, t, p)).length = 15 := (runTo_ok HFO.out HX2.out).1.1
              omega
            have SN := OV4.snocV OV s4 hge O5
            have OF4 : Off A4 (vs ++ [.slice A5 n5 c5]) := by
              refine Off.snoc (fun v hv bb hb ad ha => ?_) hap
              have h1 := OV.inner v hv bb hb
              subst ha
              have h2 := O4.block.1
              omega
            have O4m := O4.mono hge
            clear hd hst e1 e2 hap
            go_wp2_with (at_builtin; refine wpList_apps _ rfl (.tmp 47) (.tmp 49) 41 rfl w.heap.size 23 j0 (.slice none 0 0) 24 Try.underlying41 hj hy0 hy1 hy2 rfl A' q c' vs rfl OV4.1 1 1 #[.slice A5 n5 c5] rfl rfl (by simp [Value.oneCell']) (by decide) (by omega) (by decide) (by omega) ?_; intro g6 c6 w6 O6 G6 B6 hat6)
            have OVn := SN g6 c6 w6 O6 G6 hat6
            have O46 : Own w6 w.heap.size 3 A4 n4 c4 (ints .i64 (stepT ts (f, t, p))) := O4m.grown G6 (fun a ha => own_apart O4m OV4.1 (by decide) a ha)
            have D6 := (B3.trans (B4.mono hge)).trans B6
            clear SN O6 G6 hat6 O4 O5 O4m OV4
            go_roundw
            case rel => exact ⟨k + 1, _, _, _, _, q + 1, _, _, _, _, by omega, hn4, by omega, by go_num, rfl, rfl, O46, OVn, OF4, HX2, D6⟩
            case measure => simp [intOf]; omega
          · have hd : decide (stepOk ts ports (f, t, p)) = false := decide_eq_false hst
            have hnone : runR ports hs = none := by
              rw [HR.out]
              apply runTo_none (k := k + 1)
              rw [HT.out, HS.out, HX.out]
              simp only [Option.bind_some]
              rw [if_neg hst]
            have HZ := Lib.hid (HBAD.out hnone w4 (B3.trans (B4.mono hge)))
            rw [hd]
            clear hd hst hnone hap
            go_wp2
            refine bodyPost_ret (results_tmp3 rfl _ _ _) rfl ?_
            simpa using HZ.out
        · have hltB : decide ((k : Int) < (n : Int)) = false := by simp; omega
          obtain rfl : k = n := by omega
          have hX := HX.out
          rw [List.take_of_length_le (by rw [HLN.out]; omega), ← HR.out] at hX
          have r1 : runT ports hs = ts := by unfold runT; rw [hX]; rfl
          have r2 : runO ports hs = os := by unfold runO; rw [hX]; rfl
          have r3 : runB ports hs = true := by unfold runB; rw [hX]; rfl
          have HR1 := Lib.hid r1
          have HR2 := Lib.hid r2
          have HR3 := Lib.hid r3
          clear hX r1 r2 r3
          go_wp2
          refine bodyPost_ret (results_tmp3 rfl _ _ _) rfl ?_
          exact ⟨_, _, _, _, _, _, vs, ret_three HR3.out.symm, by rw [HR1.out]; exact OT, by rw [HR2.out]; exact OV, OF, B3⟩
    · have h6B : decide ((n : Int) > 60) = true := by simp; omega
      have h6C : decide (60 < (n : Int)) = true := by simp; omega
      have hnone : runR ports hs = none := by unfold runR; rw [if_neg (fun hh => h6 (by have := hh.2; rw [HLN.out] at this; exact this))]
      have r1 : runT ports hs = [] := by unfold runT; rw [hnone]; rfl
      have r2 : runO ports hs = [] := by unfold runO; rw [hnone]; rfl
      have r3 : runB ports hs = false := by unfold runB; rw [hnone]; rfl
      have HR1 := Lib.hid r1
      have HR2 := Lib.hid r2
      have HR3 := Lib.hid r3
      have E1 : Own ((w1.alloc (.cells #[] 23)).alloc (.cells #[] 3)) w.heap.size 3 (some ⟨(w1.alloc (.cells #[] 23)).heap.size, 0, none⟩) 0 0 (ints .i64 []) := World.ownsRow_lit _ #[] 0 (by simp; omega) (by unfold maxLen; omega) rfl
      have L2 := L1.bel ((Below.refl _ (w1.alloc (.cells #[] 23))).alloc (Nat.le_refl _) (.cells #[] 3))
      clear hp hnone r1 r2 r3
      go_wp2_with (fail)
      refine C1.out.mono ?_
      rintro e w2 ⟨rfl, rfl⟩
      go_wp2
      refine bodyPost_ret (results_tmp3 rfl _ _ _) rfl ?_
      exact ⟨_, _, _, _, _, _, [], ret_three HR3.out.symm, by rw [HR1.out]; simpa using E1, by rw [HR2.out]; exact L2, off_nil _, D1.alloc (by simp; omega) _⟩
  · have C1 := Lib.hid (l1In_no ports 1 6 (w1.alloc (.cells #[] 23)) hp)
    have hnone : runR ports hs = none := by unfold runR; rw [if_neg (fun hh => hp hh.1)]
    have r1 : runT ports hs = [] := by unfold runT; rw [hnone]; rfl
    have r2 : runO ports hs = [] := by unfold runO; rw [hnone]; rfl
    have r3 : runB ports hs = false := by unfold runB; rw [hnone]; rfl
    have HR1 := Lib.hid r1
    have HR2 := Lib.hid r2
    have HR3 := Lib.hid r3
    have E1 : Own ((w1.alloc (.cells #[] 23)).alloc (.cells #[] 3)) w.heap.size 3 (some ⟨(w1.alloc (.cells #[] 23)).heap.size, 0, none⟩) 0 0 (ints .i64 []) := World.ownsRow_lit _ #[] 0 (by simp; omega) (by unfold maxLen; omega) rfl
    have L2 := L1.bel ((Below.refl _ (w1.alloc (.cells #[] 23))).alloc (Nat.le_refl _) (.cells #[] 3))
    clear hp hnone r1 r2 r3
    go_wp2_with (fail)
    refine C1.out.mono ?_
    rintro e w2 ⟨rfl, rfl⟩
    go_wp2
    refine bodyPost_ret (results_tmp3 rfl _ _ _) rfl ?_
    exact ⟨_, _, _, _, _, _, [], ret_three HR3.out.symm, by rw [HR1.out]; simpa using E1, by rw [HR2.out]; exact L2, off_nil _, D1.alloc (by simp; omega) _⟩
end Go.Proofs.Ytmnhgghnaklneaa
