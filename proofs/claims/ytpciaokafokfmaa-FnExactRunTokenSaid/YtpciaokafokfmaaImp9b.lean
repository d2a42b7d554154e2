/-
  Chapter 9's program, stations that send in turn: what is proved here is what RunToken returns, in memory of its own, and that it writes nothing that was there. Condition: lengths up to 2^24.
-/
import Derived.Test.YtpciaokafokfmaaImp9a
import Derived.Test.YtpciaokafokfmaaRep
namespace Go.Proofs.Ytpciaokafokfmaa
open Go.RowKit

theorem turnPart_snoc (hold T : Nat) : ∀ (qs : List Int) (i k : Nat) (f : Int), qs[k]? = some f → turnPart hold T i (qs.take (k + 1)) = turnPart hold T i (qs.take k) ++ List.replicate (min (f.toNat - T * hold) hold) ((i + k : Nat) : Int)
  | [], _, _, _, h => by simp at h
  | q :: r, i, 0, f, h => by
    simp at h; subst h
    simp [turnPart]
  | q :: r, i, k + 1, f, h => by
    have ih := turnPart_snoc hold T r (i + 1) k f (by simpa using h)
    rw [List.take_succ_cons, List.take_succ_cons, turnPart, turnPart, ih, List.append_assoc, show i + 1 + k = i + (k + 1) by omega]
theorem sumMin_le : ∀ (qs : List Int) (m : Nat), (∀ x ∈ qs, 0 ≤ x ∧ x ≤ 9) → sumMin qs m ≤ 9 * qs.length
  | [], _, _ => by simp [sumMin]
  | q :: r, m, h => by
    have ih := sumMin_le r m (fun x hx => h x (by simp [hx]))
    have hq := h q (by simp)
    unfold sumMin at *
    rw [List.map_cons, List.sum_cons, List.length_cons]
    omega
theorem turnPart_le (hold T : Nat) (hh : hold ≤ 9) : ∀ (qs : List Int) (i : Nat), (turnPart hold T i qs).length ≤ 9 * qs.length
  | [], _ => by simp [turnPart]
  | q :: r, i => by
    have ih := turnPart_le hold T hh r (i + 1)
    rw [turnPart, List.length_append, List.length_replicate, List.length_cons]
    omega
theorem has_one (w : World) (x : Int) : Has (w.alloc (.cells #[.int .i64 x] 3)) (some ⟨w.heap.size, 0, none⟩) 1 (ints .i64 [x]) := Has.row #[.int .i64 x] rfl rfl (by unfold maxLen; omega)

set_option maxRecDepth 100000 in
set_option maxHeartbeats 4000000 in
theorem turnOrder_w {A : Option Addr} {n c : Nat} {qs : List Int} {H : Nat} {w : World} (h : Has w A n (ints .i64 qs)) (hn : n ≤ 16777216) (hv : turnsOk qs (H : Int) = true) :
    Calls Try.prog 56 #[.slice A n c, .int .i64 (H : Int)] w fun e w' => ∃ A' n' c', e = .returned (.slice A' n' c') ∧ Own w' w.heap.size 3 A' n' c' (ints .i64 (orderAll qs H)) ∧ Below w.heap.size w w' := by
  obtain ⟨i0, hi, hz0, hz1, hz2⟩ := info_parts Try.infoInt
  obtain ⟨ht, hh⟩ := turnsOk_iff.1 hv
  obtain ⟨hq, hl6⟩ := talkOk_iff.1 ht
  have HL := Lib.hid h.len
  have hn6 : n ≤ 6 := by have := h.len; omega
  have hH9 : H ≤ 9 := by omega
  have C := Lib.hid (implTurnsOf_any (c := c) (hold := (H : Int)) h hn)
  have hb := turnsI_b qs (H : Int)
  have h0 : 0 ≤ turnsI qs (H : Int) := by rw [turnsI_yes hv]; exact (ceilI_b ⟨maxL_nn qs, maxL_le hq⟩ hh).1
  obtain ⟨M, hM⟩ : ∃ M : Nat, turnsI qs (H : Int) = (M : Int) := ⟨_, (Int.toNat_of_nonneg h0).symm⟩
  rw [hM] at C hb
  have hM9 : M ≤ 9 := by omega
  have HALL := Lib.hid (show orderAll qs (H : Int) = orderTo qs H M by unfold orderAll; rw [hM]; simp)
  have HQ := Lib.hid (okQ_iff.1 hq)
  have HLE : Hid (∀ T, (orderTo qs H T).length ≤ 54) := fun T => by rw [orderTo_len]; have := sumMin_le qs (T * H) HQ.out; omega
  have HPE : Hid (∀ T k, (turnPart H T 0 (qs.take k)).length ≤ 54) := fun T k => by have := turnPart_le H T hH9 (qs.take k) 0; rw [List.length_take] at this; omega
  have HH9 := Lib.hid hH9
  rw [HALL.out]
  clear hb h0 hM hv ht hh hq hl6 hH9
  go_enter Try.func56, Try.ntmps56
  go_wp2_with (fail)
  refine C.out.mono ?_
  rintro e w' ⟨rfl, rfl⟩
  go_wp2
  go_loopw [5, 13] (fun v t wr => ∃ (T q : Nat) (A' : Option Addr) (c' : Nat), T ≤ M ∧ t = .int .i64 (T : Int) ∧ v = .slice A' q c' ∧ q ≤ 54 ∧ Own wr w.heap.size 3 A' q c' (ints .i64 (orderTo qs H T)) ∧ Below w.heap.size w wr) (fun _ t _ => M - (intOf t).toNat)
  case atStart => exact ⟨0, 0, _, _, Nat.zero_le _, rfl, rfl, by omega, World.ownsRow_nil _ _ _ _, Below.refl _ _⟩
  case round =>
    obtain ⟨T, q, A1, c1, hT, rfl, rfl, hq54, O1, B1⟩ := hrel
    by_cases hTM : T < M
    rotate_left
    · have tB : decide ((T : Int) < (M : Int)) = false := by simp; omega
      have tN : decide (T < M) = false := by simp; omega
      obtain rfl : T = M := by omega
      go_wp2
      go_ret
      exact ⟨_, _, _, rfl, O1, B1⟩
    have tB : decide ((T : Int) < (M : Int)) = true := by simp; omega
    have tN : decide (T < M) = true := by simp; omega
    have TW : IntKind.i64.wrap ((T : Int) + 1) = ((T + 1 : Nat) : Int) := by rw [IntWalk.i64_in _ (by omega)]; omega
    obtain ⟨p, hp⟩ : ∃ p, T * H = p := ⟨_, rfl⟩
    have hp81 : p ≤ 81 := by rw [← hp]; exact Nat.le_trans (Nat.mul_le_mul (by omega : T ≤ 9) HH9.out) (by decide)
    have pI : (T : Int) * (H : Int) = (p : Int) := by rw [← hp]; push_cast; rfl
    have pW : IntKind.i64.wrap (p : Int) = (p : Int) := IntWalk.i64_in _ (by omega)
    have HP := Lib.hid hp
    clear hp hTM
    go_wp2
    go_loopw [5, 18] (fun v t wr => ∃ (k q : Nat) (A' : Option Addr) (c' : Nat), k ≤ n ∧ t = .int .i64 (k : Int) ∧ v = .slice A' q c' ∧ q ≤ 108 ∧ Own wr w.heap.size 3 A' q c' (ints .i64 (orderTo qs H T ++ turnPart H T 0 (qs.take k))) ∧ Below w.heap.size w wr) (fun _ t _ => n - (intOf t).toNat)
    case atStart => exact ⟨0, q, _, _, Nat.zero_le _, rfl, rfl, by omega, by simpa [turnPart] using O1, B1⟩
    case round =>
      obtain ⟨k, q2, A2, c2, hk, rfl, rfl, hq108, O2, B2⟩ := hrel
      by_cases hkn : k < n
      rotate_left
      · have kB : decide ((k : Int) < (n : Int)) = false := by simp; omega
        have kN : decide (k < n) = false := by simp; omega
        obtain rfl : k = n := by omega
        rw [List.take_of_length_le (by rw [HL.out]; omega)] at O2
        have hq2 : q2 ≤ 54 := by have h1 := O2.has.len; have h2 := HLE.out (T + 1); rw [orderTo] at h2; omega
        go_wp2
        go_roundw
        case rel => exact ⟨T + 1, q2, _, _, by have := of_decide_eq_true tN; omega, by simp, rfl, hq2, O2, B2⟩
        case measure => have := of_decide_eq_true tN; simp [intOf]; omega
      have kB : decide ((k : Int) < (n : Int)) = true := by simp; omega
      have kN : decide (k < n) = true := by simp; omega
      have kW : IntKind.i64.wrap ((k : Int) + 1) = ((k + 1 : Nat) : Int) := by rw [IntWalk.i64_in _ (by omega)]; omega
      have h2 := h.bel B2
      obtain ⟨b, o, z, rfl, hbl, hx, hc⟩ := h2.at_ hkn
      have hz9 := HQ.out z (List.mem_of_getElem? hx)
      obtain ⟨F, rfl⟩ := Int.eq_ofNat_of_zero_le hz9.1
      have hF9 : F ≤ 9 := by omega
      have HS := Lib.hid (turnPart_snoc H T qs 0 k _ hx)
      obtain ⟨m, hm⟩ : ∃ m, min (F - p) H = m := ⟨_, rfl⟩
      have HMM := Lib.hid (show min (((F : Nat) : Int).toNat - T * H) H = m by rw [HP.out]; exact hm)
      have dW : IntKind.i64.wrap ((F : Int) - (p : Int)) = (F : Int) - (p : Int) := IntWalk.i64_in _ (by omega)
      obtain ⟨d, hd⟩ : ∃ d, F - p = d := ⟨_, rfl⟩
      have mx : max ((F : Int) - (p : Int)) 0 = (d : Int) := by omega
      have mx2 : max 0 ((F : Int) - (p : Int)) = (d : Int) := by omega
      have mn : min (d : Int) (H : Int) = (m : Int) := by omega
      have mn2 : min (H : Int) (d : Int) = (m : Int) := by omega
      have hm9 : m ≤ 9 := by omega
      have s2 := B2.size
      have CR : ∀ W : World, Hid (Calls Try.prog 66 #[.slice (some ⟨W.heap.size, 0, none⟩) 1 1, .int .i64 (m : Int)] (W.alloc (.cells #[.int .i64 (k : Int)] 3)) fun e w' => ∃ A' c', e = .returned (.slice A' m c') ∧ Own w' (W.alloc (.cells #[.int .i64 (k : Int)] 3)).heap.size 3 A' m c' (ints .i64 (List.replicate m (k : Int))) ∧ Below (W.alloc (.cells #[.int .i64 (k : Int)] 3)).heap.size (W.alloc (.cells #[.int .i64 (k : Int)] 3)) w') := fun W => repeat_all (has_one W (k : Int)) (by omega)
      have HCR := Lib.hid CR
      clear hx hm hd hz9 CR
      go_wp2_with (first | (go_at_call 66; refine (HCR.out _).out.mono ?_; rintro e w5 ⟨A5, c5, rfl, O5, B5⟩; have B5w : Below wr.heap.size wr w5 := ((Below.refl wr.heap.size wr).alloc (Nat.le_refl _) (.cells #[.int .i64 (k : Int)] 3)).trans (B5.mono (by simp)); have B5' : Below w.heap.size wr w5 := B5w.mono s2; have s5 : w.heap.size ≤ w5.heap.size := Nat.le_trans s2 B5w.size; have O2' := O2.bel B5w) | (at_builtin; refine wpList_app_has _ rfl (.tmp 29) (.tmp 35) 23 rfl w.heap.size 3 i0 (.int .i64 0) 8 Try.underlying23 hi hz0 hz1 hz2 rfl A2 q2 c2 _ rfl O2' A5 m c5 _ rfl O5.has (ints_oneCell _ _) (by omega) (by decide) s5 ?_; intro A6 c6 w6 O6 G6 B6))
      go_roundw
      case rel =>
        have h8 : orderTo qs H T ++ turnPart H T 0 (qs.take (k + 1)) = (orderTo qs H T ++ turnPart H T 0 (qs.take k)) ++ List.replicate m (k : Int) := by
          rw [HS.out, HMM.out, Nat.zero_add, List.append_assoc]
        have hl8 : q2 + m ≤ 108 := by
          have h1 := O6.has.1
          rw [← ints_app, ← h8, ints_length, List.length_append] at h1
          have h2 := HLE.out T
          have h3 := HPE.out T (k + 1)
          omega
        exact ⟨k + 1, q2 + m, _, _, by have := of_decide_eq_true kN; omega, by simp, rfl, hl8, by rw [h8, ints_app]; exact O6, (B2.trans B5').trans B6⟩
      case measure => have := of_decide_eq_true kN; simp [intOf]; omega

/-- 'list[:k]' of a slice of the call's own. -/
theorem run_front9 {P : Program} {t e : TypeId} (ht : P.underlying t = some (.slice e)) (hz : ∀ w, (Go.sizeOf e).run P w = .ok 1 w) {w : World} {lo n c k : Nat} {ty : TypeId} {A : Option Addr} {xs : List Value} (h : Own w lo ty A n c xs) (hk : k ≤ n) :
    ∀ W, (Instr.slice t (.slice A n c) none (some (.int .i64 (k : Int))) none).run P W = .ok (.slice A k c) W := fun W => by
  have hnc := h.cap
  cases A with
  | none =>
    have hn0 : n = 0 := by
      rcases Nat.eq_zero_or_pos n with h0 | h0
      · exact h0
      · obtain ⟨g, hA, _⟩ := h.head h0; cases hA
    have hc0 : c = 0 := by
      rcases h.2 with ⟨hv, _⟩ | ⟨g, cap, cur, hv, _⟩
      · cases hv; rfl
      · cases hv
    subst hn0 hc0
    obtain rfl : k = 0 := by omega
    have ht' : P.underlying t = some (.slice (P.elem t)) := by simp [Program.elem, ht]
    have he : P.elem t = e := by simp [Program.elem, ht]
    rw [run_slice_h W t _ _ _ ht' .i64 _ (by omega) (by omega), he, hz]
    simp [Result.andThen, sliced]
  | some a =>
    have ha := h.at_head
    obtain ⟨g, rfl⟩ : ∃ g, a = ⟨g, 0, none⟩ := ⟨_, ha⟩
    exact run_front8 ht hz (by omega) rfl W
theorem own_front9 {w : World} {lo n c k : Nat} {ty : TypeId} {A : Option Addr} {zs : List Int} (h : Own w lo ty A n c (ints .i64 zs)) (hk : k ≤ n) : Own w lo ty A k c (ints .i64 (zs.take k)) := by
  have hl := h.has.len
  cases A with
  | none =>
    have hn0 : n = 0 := by
      rcases Nat.eq_zero_or_pos n with h0 | h0
      · exact h0
      · obtain ⟨g, hA, _⟩ := h.head h0; cases hA
    subst hn0
    obtain rfl : k = 0 := by omega
    rw [List.take_of_length_le (by omega)]; exact h
  | some a =>
    have ha := h.at_head
    obtain ⟨g, rfl⟩ : ∃ g, a = ⟨g, 0, none⟩ := ⟨_, ha⟩
    have h2 : Own w lo ty (some ⟨g, 0, none⟩) (k + (n - k)) c (ints .i64 (zs.take k) ++ ints .i64 (zs.drop k)) := by
      rw [← ints_app, List.take_append_drop, show k + (n - k) = n by omega]; exact h
    exact h2.front (by rw [ints_length, List.length_take]; omega)

set_option maxRecDepth 100000 in
set_option maxHeartbeats 4000000 in
theorem implRunToken_w {A : Option Addr} {n c : Nat} {qs : List Int} {hold sl : Int} {w : World} (h : Has w A n (ints .i64 qs)) (hn : n ≤ 16777216) :
    Calls Try.prog 27 #[.slice A n c, .int .i64 hold, .int .i64 sl] w fun e w' => RunR w w' e (tokO qs hold sl) 0 (tokO qs hold sl).length (tokD qs hold sl) (tokOk qs hold sl) := by
  have HL := Lib.hid h.len
  obtain ⟨W0, hW0⟩ : ∃ W0, w.alloc (.cells #[.slice none 0 0, .int .i64 0, .int .i64 0, .bool false] 27) = W0 := ⟨_, rfl⟩
  have K0 : RunRow W0 w.heap.size none 0 0 0 0 false := by rw [← hW0]; exact heap_alloc_new w _
  have B0 : Below w.heap.size w W0 := by rw [← hW0]; exact (Below.refl _ _).alloc (Nat.le_refl _) _
  have S0 := Lib.hid (show W0.heap.size = w.heap.size + 1 by rw [← hW0]; simp)
  have sle : w.heap.size ≤ W0.heap.size := B0.size
  have h0 := h.bel B0
  obtain ⟨k0, k1, k2, k3⟩ := K0.cells
  have f0 := K0.open_ 0
  have f1 := K0.open_ 1
  have f2 := K0.open_ 2
  have f3 := K0.open_ 3
  have bad : tokOk qs hold sl = false → ∀ W, Below w.heap.size w W → RunR w W (.returned (.tuple #[.agg #[.slice none 0 0, .int .i64 0, .int .i64 0, .bool false], .bool false])) (tokO qs hold sl) 0 (tokO qs hold sl).length (tokD qs hold sl) (tokOk qs hold sl) := fun hb W hB => by
    rw [tokO_no hb, hb]
    refine ⟨none, 0, 0, ?_, World.ownsRow_nil _ _ _ _, hB⟩
    unfold tokD; rw [hb]; rfl
  have BAD := Lib.hid bad
  clear bad
  by_cases hb : talkOk qs = true
  rotate_left
  · have hbf : talkOk qs = false := by simpa using hb
    have C := Lib.hid (implTalkValid_b (c := c) (b := false) h0 hn hbf)
    have HF := Lib.hid (BAD.out (by unfold tokOk turnsOk; rw [hbf]; rfl))
    clear hb hbf
    go_enter Try.func27, Try.ntmps27
    go_wp2_with (fail)
    refine C.out.mono ?_
    rintro e w' ⟨rfl, rfl⟩
    go_wp2
    refine bodyPost_ret (results_row_tmp rfl _ _ _ _ _ _ _ rfl (K0.put none 0 0 0 0 false) Try.underlying27 rfl (by kernel_rfl)) rfl ?_
    exact HF.out _ ((((B0.setCell (Nat.le_refl _) _).setCell (Nat.le_refl _) _).setCell (Nat.le_refl _) _).setCell (Nat.le_refl _) _)
  have C := Lib.hid (implTalkValid_b (c := c) h0 hn hb)
  by_cases hh : 1 ≤ hold ∧ hold ≤ 9
  rotate_left
  · have C2 := Lib.hid (isHold_no W0 hh)
    have HF := Lib.hid (BAD.out (by
      cases ht : tokOk qs hold sl with
      | false => rfl
      | true => exact absurd (turnsOk_iff.1 (tokOk_iff.1 ht).1).2 hh))
    clear hb hh
    go_enter Try.func27, Try.ntmps27
    go_wp2_with (fail)
    refine C.out.mono ?_
    rintro e w' ⟨rfl, rfl⟩
    go_wp2_with (fail)
    refine C2.out.mono ?_
    rintro e w' ⟨rfl, rfl⟩
    go_wp2
    refine bodyPost_ret (results_row_tmp rfl _ _ _ _ _ _ _ rfl (K0.put none 0 0 0 0 false) Try.underlying27 rfl (by kernel_rfl)) rfl ?_
    exact HF.out _ ((((B0.setCell (Nat.le_refl _) _).setCell (Nat.le_refl _) _).setCell (Nat.le_refl _) _).setCell (Nat.le_refl _) _)
  have C2 := Lib.hid (isHold_yes W0 hh)
  by_cases hs : 0 ≤ sl ∧ sl ≤ 2000
  rotate_left
  · have C3 := Lib.hid (areSlots_no W0 hs)
    have HF := Lib.hid (BAD.out (by
      cases ht : tokOk qs hold sl with
      | false => rfl
      | true => exact absurd (tokOk_iff.1 ht).2 hs))
    clear hb hh hs
    go_enter Try.func27, Try.ntmps27
    go_wp2_with (fail)
    refine C.out.mono ?_
    rintro e w' ⟨rfl, rfl⟩
    go_wp2_with (fail)
    refine C2.out.mono ?_
    rintro e w' ⟨rfl, rfl⟩
    go_wp2_with (fail)
    refine C3.out.mono ?_
    rintro e w' ⟨rfl, rfl⟩
    go_wp2
    refine bodyPost_ret (results_row_tmp rfl _ _ _ _ _ _ _ rfl (K0.put none 0 0 0 0 false) Try.underlying27 rfl (by kernel_rfl)) rfl ?_
    exact HF.out _ ((((B0.setCell (Nat.le_refl _) _).setCell (Nat.le_refl _) _).setCell (Nat.le_refl _) _).setCell (Nat.le_refl _) _)
  have C3 := Lib.hid (areSlots_yes W0 hs)
  have hto := turnsOk_iff.2 ⟨hb, hh⟩
  have HV := Lib.hid (tokOk_iff.2 ⟨hto, hs⟩)
  obtain ⟨H, rfl⟩ := Int.eq_ofNat_of_zero_le (show 0 ≤ hold by omega)
  obtain ⟨L, rfl⟩ := Int.eq_ofNat_of_zero_le hs.1
  have hL2 : L ≤ 2000 := by omega
  have C4 := Lib.hid (turnOrder_w (c := c) h0 hn hto)
  have HTO := Lib.hid (tokO_yes HV.out)
  have HOL := Lib.hid (orderAll_len hto)
  have HSB := Lib.hid (sum_b (talkOk_iff.1 hb).1)
  have HN6 := Lib.hid (talkOk_iff.1 hb).2
  have HD := Lib.hid (show tokD qs H L = decide ((orderAll qs H).length ≤ L) by unfold tokD; rw [HV.out]; simp)
  rw [HV.out]
  clear hb hh hs hto BAD
  go_enter Try.func27, Try.ntmps27
  go_wp2_with (fail)
  refine C.out.mono ?_
  rintro e w' ⟨rfl, rfl⟩
  go_wp2_with (fail)
  refine C2.out.mono ?_
  rintro e w' ⟨rfl, rfl⟩
  go_wp2_with (fail)
  refine C3.out.mono ?_
  rintro e w' ⟨rfl, rfl⟩
  go_wp2_with (fail)
  refine C4.out.mono ?_
  rintro e w5 ⟨A5, n5, c5, rfl, O5, B5⟩
  have hn5 : (orderAll qs H).length = n5 := O5.has.len
  have HN5 := Lib.hid hn5
  have hn54 : n5 ≤ 54 := by have h1 := HOL.out; have h2 := HSB.out; have h3 := HN6.out; omega
  clear hn5
  obtain ⟨m, hm⟩ : ∃ m, min n5 L = m := ⟨_, rfl⟩
  have mn : min (n5 : Int) (L : Int) = (m : Int) := by omega
  have mn2 : min (L : Int) (n5 : Int) = (m : Int) := by omega
  have hm5 : m ≤ n5 := by omega
  obtain ⟨bd, hbd⟩ : ∃ bd, ((m : Int) == (n5 : Int)) = bd := ⟨_, rfl⟩
  have HBD := Lib.hid (show tokD qs H L = bd by
    rw [HD.out, HN5.out, ← hbd]
    by_cases hle : n5 ≤ L
    · have : m = n5 := by omega
      rw [this]; simp [hle]
    · have : ¬ ((m : Int) = (n5 : Int)) := by omega
      rw [decide_eq_false hle]; exact (beq_eq_false_iff_ne.2 this).symm)
  have HMM := Lib.hid hm
  have hbd2 : (m == n5) = bd := by
    rw [← hbd]
    by_cases hq : m = n5
    · simp [hq]
    · rw [beq_eq_false_iff_ne.2 hq, beq_eq_false_iff_ne.2 (show ¬ ((m : Int) = (n5 : Int)) by omega)]
  have rf := run_front9 (P := Try.prog) Try.underlying23 Try.sizeOf3 O5 hm5
  have OF := own_front9 O5 hm5
  have K5 := K0.bel B5
  obtain ⟨x0, x1, x2, x3⟩ := K5.cells
  have y0 := K5.open_ 0
  have y1 := K5.open_ 1
  have y2 := K5.open_ 2
  have y3 := K5.open_ 3
  have E5 : Below w.heap.size w w5 := B0.trans (B5.mono sle)
  have OF' := OF.mono sle
  clear hm k0 k1 k2 k3 f0 f1 f2 f3 hm5 OF
  go_wp2
  refine bodyPost_ret (results_row_tmp rfl _ _ _ _ _ _ _ rfl (K5.put A5 m c5 0 m bd) Try.underlying27 rfl (by kernel_rfl)) rfl ?_
  have hO : tokO qs H L = (orderAll qs H).take m := by
    rw [HTO.out, ← HMM.out, ← HN5.out]
    show List.take (L : Int).toNat _ = _
    rw [List.take_eq_take_iff]; omega
  refine ⟨A5, m, c5, ret_run rfl (by rw [hO, List.length_take, HN5.out]; have := HMM.out; omega) HBD.out.symm rfl, ?_, (((E5.setCell (Nat.le_refl _) _).setCell (Nat.le_refl _) _).setCell (Nat.le_refl _) _).setCell (Nat.le_refl _) _⟩
  rw [hO]
  exact own_set (own_set (own_set (own_set OF' K5 (by decide) 0 _) (K5.order _ _ _) (by decide) 1 _) ((K5.order _ _ _).hits _) (by decide) 2 _) (((K5.order _ _ _).hits _).slots _) (by decide) 3 _
end Go.Proofs.Ytpciaokafokfmaa
