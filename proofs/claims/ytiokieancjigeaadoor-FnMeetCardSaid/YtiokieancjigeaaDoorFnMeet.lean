/-
  FnMeet: two ports share a network just if a frame comes from one to the other. The table of math/bits holds what the program text lays (tied).
-/
import Derived.Test.YtiokieancjigeaaDoorDrawVlan
import Derived.Test.YtiokieancjigeaaDoorImp10e
import Derived.Test.YtiokieancjigeaaDoorImp10h
import Derived.Test.YtiokieancjigeaaDoorWnInts
import Derived.Test.YtiokieancjigeaaDoorVlanN
import Derived.Test.YtiokieancjigeaaDoorCards
import Derived.Test.YtiokieancjigeaaDoorTie
import Derived.Deep.DeepHandedRow
import Derived.OpenVars
namespace Go.Proofs.YtiokieancjigeaaDoor
open Go.RowKit Go.ChangeShapes Go.WideShapes Go.ChangeAt

def anyTo (b : Int) (l : List (Int × Int)) : Bool := l.any fun z => z.1 == b
theorem anyTo_step {b x y : Int} {S : List (Int × Int)} {m : Nat} (h : S[m]? = some (x, y)) : anyTo b (S.take (m + 1)) = (anyTo b (S.take m) || (x == b)) := by
  unfold anyTo
  rw [List.take_add_one, h, List.any_append]
  simp
theorem comes_yes {ps : List Port} {a b : Nat} {v t : Int} {S : List (Int × Int)} (hok : psOk ps) (ha : a < ps.length) (hb : b < ps.length) (hne : a ≠ b) (h0 : outI (dp ps a) v = t) (ht : 0 ≤ t) (hS : floodI ps (a : Int) t = S) : decide (v ∈ meetI ps (a : Int) (b : Int)) = anyTo (b : Int) S := by
  have hc := comes (v := v) hok (a := (a : Int)) (b := (b : Int)) ⟨by omega, by omega⟩ ⟨by omega, by omega⟩ (by omega)
  rw [show ((a : Int)).toNat = a by simp, h0, hS] at hc
  rw [Bool.eq_iff_iff, decide_eq_true_iff, hc]
  unfold anyTo
  rw [List.any_eq_true]
  constructor
  · rintro ⟨_, x, hx, e⟩; exact ⟨x, hx, by simp [e]⟩
  · rintro ⟨x, hx, e⟩; exact ⟨ht, x, hx, by simpa using e⟩
theorem comes_no {ps : List Port} {a b : Nat} {v t : Int} (hok : psOk ps) (ha : a < ps.length) (hb : b < ps.length) (hne : a ≠ b) (h0 : outI (dp ps a) v = t) (ht : ¬ 0 ≤ t) : decide (v ∈ meetI ps (a : Int) (b : Int)) = false := by
  have hc := comes (v := v) hok (a := (a : Int)) (b := (b : Int)) ⟨by omega, by omega⟩ ⟨by omega, by omega⟩ (by omega)
  rw [show ((a : Int)).toNat = a by simp, h0] at hc
  exact decide_eq_false (fun h => ht (hc.1 h).1)
set_option maxRecDepth 100000 in
set_option maxHeartbeats 16000000 in
theorem walk_FnMeet {A : Option Addr} {n c : Nat} {zs : List Int} {w : World} (hT : TzIn w) (h : Has w A n (ints .u8 zs)) (hwf : ∀ z ∈ zs, (Lit.int .u8 z).wf = true) (hc : n ≤ c ∧ c ≤ maxLen) :
    Calls Tryd.prog 3 #[.slice A n c] w fun e w' => e = .returned (.bool true) ∧ Below w.heap.size w w' := by
  have hu : U8s zs := fun z hz => u8_of_wf (hwf z hz)
  clear hwf
  by_cases hn : n ≤ 1048576
  rotate_left
  · go_enter Tryd.func3, Tryd.ntmps3
    go_wp2
    go_ret
    exact ⟨rfl, Below.refl _ _⟩
  go_enter Tryd.func3, Tryd.ntmps3
  go_wp2_with (fail)
  refine (drawMeetIn_any h hu hc).mono ?_
  rintro e w1 hX
  unfold PortsNN at hX
  obtain ⟨A1, n1, c1, ps, a, b, rfl, hP, hld, hn1, B1⟩ := hX
  have hl := hld.lenP
  have HL := Lib.hid hP.1
  have HT1 := Lib.hid (hT.bel B1)
  clear hld hT
  obtain ⟨R, hR⟩ : ∃ R, meetI ps a b = R := ⟨_, rfl⟩
  have HR := Lib.hid hR
  have HRC := Lib.hid ((meetI_comm ps b a).trans hR)
  have HRl := Lib.hid (show R.length ≤ 10 from by rw [← hR]; exact meetI_len ps a b)
  clear hR
  go_wp2_with (fail)
  refine (implMeetIn_r (c := c1) HT1.out hP (by omega) hl HR.out).mono ?_
  rintro e w2 ⟨A2, n2, c2, rfl, O2, B2⟩
  have C2 := bel_trans B1 B2
  have P2 := hP.bel B2
  have hn2 : n2 ≤ 10 := by have h1 := O2.has.len; have h2 := HRl.out; omega
  go_wp2_with (fail)
  refine (specMeetIn_r (c := c1) P2 (by omega) hl HR.out).mono ?_
  rintro e w3 ⟨A3, n3, c3, rfl, O3, B3⟩
  have C3 := bel_trans C2 B3
  have P3 := P2.bel B3
  have H2 := (O2.bel B3).has
  go_wp2_with (fail)
  refine (wnInts_same (c := c2) (c' := c3) H2 O3.has (by omega)).mono ?_
  rintro e w4 ⟨rfl, B4⟩
  have C4 := bel_trans C3 B4
  have P4 := P3.bel B4
  have H4 := H2.bel B4
  have HT4 := Lib.hid (HT1.out.bel (bel_trans B2 (bel_trans B3 B4)))
  clear O2 O3 H2
  go_wp2_with (fail)
  refine (implMeetIn_r (c := c1) HT4.out P4 (by omega) hl HRC.out).mono ?_
  rintro e w5 ⟨A5, n5, c5, rfl, O5, B5⟩
  have C5 := bel_trans C4 B5
  have P5 := P4.bel B5
  have H5 := H4.bel B5
  go_wp2_with (fail)
  refine (wnInts_same (c := c2) (c' := c5) H5 O5.has (by omega)).mono ?_
  rintro e w6 ⟨rfl, B6⟩
  have C6 := bel_trans C5 B6
  have P6 := P5.bel B6
  have H6 := H5.bel B6
  clear O5
  by_cases hab : a = b
  · have abB : (a == b) = true := by simp [hab]
    clear hab
    go_wp2
    go_ret
    exact ⟨rfl, C6⟩
  have abB : (a == b) = false := by simp [hab]
  obtain ⟨vb, hvb⟩ : ∃ vb, decide (psOk ps) = vb := ⟨_, rfl⟩
  have HAB := Lib.hid hab
  have HVB := Lib.hid hvb
  clear hab hvb
  go_wp2_with (fail)
  refine (implVPortsValid_b (c := c1) P6 (by omega) hl HVB.out).mono ?_
  rintro e w7 ⟨rfl, B7⟩
  have C7 := bel_trans C6 B7
  have P7 := P6.bel B7
  have H7 := H6.bel B7
  cases vb with
  | false =>
    go_wp2
    go_ret
    exact ⟨rfl, C7⟩
  | true =>
  have HOK := Lib.hid (of_decide_eq_true HVB.out)
  by_cases a0 : a < 0
  · have aB : decide (a < 0) = true := decide_eq_true a0
    clear a0
    go_wp2
    go_ret
    exact ⟨rfl, C7⟩
  have aB : decide (a < 0) = false := decide_eq_false a0
  by_cases b0 : b < 0
  · have bB : decide (b < 0) = true := decide_eq_true b0
    clear b0
    go_wp2
    go_ret
    exact ⟨rfl, C7⟩
  have bB : decide (b < 0) = false := decide_eq_false b0
  by_cases a1 : (n1 : Int) ≤ a
  · have aC : decide ((n1 : Int) ≤ a) = true := decide_eq_true a1
    clear a1
    go_wp2
    go_ret
    exact ⟨rfl, C7⟩
  have aC : decide ((n1 : Int) ≤ a) = false := decide_eq_false a1
  by_cases b1 : (n1 : Int) ≤ b
  · have bC : decide ((n1 : Int) ≤ b) = true := decide_eq_true b1
    clear b1
    go_wp2
    go_ret
    exact ⟨rfl, C7⟩
  have bC : decide ((n1 : Int) ≤ b) = false := decide_eq_false b1
  obtain ⟨a', rfl⟩ := Int.eq_ofNat_of_zero_le (show 0 ≤ a by omega)
  obtain ⟨b', rfl⟩ := Int.eq_ofNat_of_zero_le (show 0 ≤ b by omega)
  have hla : a' < n1 := by omega
  have hlb : b' < n1 := by omega
  have HNE := Lib.hid (show a' ≠ b' from fun hh => HAB.out (by rw [hh]))
  have j0 : (0 : Int) ≤ (a' : Int) := by omega
  have j1 : (a' : Int) < (n1 : Int) := by omega
  have aD : decide (n1 ≤ a') = false := decide_eq_false (by omega)
  have bD : decide (n1 ≤ b') = false := decide_eq_false (by omega)
  clear a0 b0 a1 b1
  go_wp2
  go_loopw [69] (fun i wr => ∃ k : Nat, k ≤ 10 ∧ i = .int .i64 (k : Int) ∧ Below w7.heap.size w7 wr) (fun i _ => 10 - (intOf i).toNat)
  case atStart => exact ⟨0, Nat.zero_le _, rfl, Below.refl _ _⟩
  case round =>
    obtain ⟨k, hk, rfl, BW⟩ := hrel
    have hge := BW.size
    by_cases hlt : k < 10
    · have hltB : decide ((k : Int) < 10) = true := decide_eq_true (by omega)
      have kW : IntKind.i64.wrap ((k : Int) + 1) = ((k + 1 : Nat) : Int) := by rw [IntWalk.i64_in _ (by omega)]; omega
      have PW := P7.bel BW
      obtain ⟨b2, o2, Xa, ma, da, xa, qa, la, rfl, hbl, hxa, e0, e1, e2, _, hHa⟩ := PW.at_ hla
      have hma := hl.at_ hxa hHa
      obtain ⟨t, ht⟩ : ∃ t, outI (xa, qa, la) (k : Int) = t := ⟨_, rfl⟩
      have HOUT := Lib.hid (show outI (dp ps a') (k : Int) = t from by rw [dp_at hxa]; exact ht)
      have HO := Lib.hid ht
      clear hxa ht
      go_wp2_with (fail)
      refine (implTagOut_r (d := da) hHa hma HO.out).mono ?_
      rintro e w8 ⟨rfl, B8⟩
      have BW8 := BW.trans (B8.mono hge)
      clear e0 e1 e2
      by_cases h0 : 0 ≤ t
      · have tB : decide (0 ≤ t) = true := decide_eq_true h0
        obtain ⟨S, hS⟩ : ∃ S, floodI ps (a' : Int) t = S := ⟨_, rfl⟩
        have HS := Lib.hid hS
        have HCY := Lib.hid (comes_yes HOK.out (by have := HL.out; omega) (by have := HL.out; omega) HNE.out HOUT.out h0 hS)
        clear hS h0
        go_wp2_with (fail)
        refine (implFloodVlan_r (c := c1) (P7.bel BW8) (by omega) hl HS.out).mono ?_
        rintro e w9 ⟨A9, n9, c9, rfl, O9, B9⟩
        have BW9 := BW8.trans (B9.mono BW8.size)
        have HN9 := Lib.hid O9.len
        have hn9 : n9 ≤ 16 := by have h1 := HN9.out; rw [← HS.out] at h1; have := flood_len ps (a' : Int) t; omega
        have H9 := O9.has
        clear O9
        go_wp2
        go_loopw [8, 85] (fun bk i wr => ∃ (m : Nat) (b : Bool), m ≤ n9 ∧ i = .int .i64 (m : Int) ∧ bk = .bool b ∧ Hid (b = anyTo (b' : Int) (S.take m)) ∧ Below w9.heap.size w9 wr) (fun _ i _ => n9 - (intOf i).toNat)
        case atStart => exact ⟨0, false, Nat.zero_le _, rfl, rfl, Lib.hid rfl, Below.refl _ _⟩
        case round =>
          obtain ⟨m, b, hm, rfl, rfl, HB, BX⟩ := hrel
          have hgx := BX.size
          by_cases hlm : m < n9
          · have hlmB : decide ((m : Int) < (n9 : Int)) = true := decide_eq_true (by omega)
            have mW : IntKind.i64.wrap ((m : Int) + 1) = ((m + 1 : Nat) : Int) := by rw [IntWalk.i64_in _ (by omega)]; omega
            obtain ⟨b6, o6, p, q, rfl, hbl6, hp, f0, f1⟩ := (H9.bel BX).at_ hlm
            obtain ⟨U, hU⟩ : ∃ U, wr.alloc (.cells #[.int .i64 p, .int .i64 q] 36) = U := ⟨_, rfl⟩
            have BU : Below wr.heap.size wr U := by rw [← hU]; exact below_allocP wr _
            have hUn : U.heap[wr.heap.size]? = some (.cells #[.int .i64 p, .int .i64 q] 36 (0, 0)) := by rw [← hU]; exact heap_alloc_new wr _
            have u0 := (cell_of_row U wr.heap.size 0 _ _ (0, 0) hUn).trans rfl
            have u1 := (cell_of_row U wr.heap.size 1 _ _ (0, 0) hUn).trans rfl
            have BXU := BX.trans (BU.mono hgx)
            have HST := Lib.hid (anyTo_step (b := (b' : Int)) hp)
            clear hp hUn
            cases b with
            | true =>
              have HB2 : Hid (true = anyTo (b' : Int) (S.take (m + 1))) := by
                have : true = anyTo (b' : Int) (S.take (m + 1)) := by rw [HST.out, ← HB.out]; rfl
                exact this
              go_wp2
              go_roundw
              case rel => exact ⟨m + 1, true, by omega, by go_num, rfl, HB2, BXU⟩
              case measure => simp [intOf]; omega
            | false =>
              obtain ⟨b3, hb3⟩ : ∃ b3, (p == (b' : Int)) = b3 := ⟨_, rfl⟩
              have HB2 : Hid (b3 = anyTo (b' : Int) (S.take (m + 1))) := by
                have : b3 = anyTo (b' : Int) (S.take (m + 1)) := by rw [HST.out, ← HB.out, hb3]; rfl
                exact this
              go_wp2
              go_roundw
              case rel => exact ⟨m + 1, b3, by omega, by go_num, rfl, HB2, BXU⟩
              case measure => simp [intOf]; omega
          · have hlmB : decide ((m : Int) < (n9 : Int)) = false := decide_eq_false (by omega)
            obtain rfl : m = n9 := by omega
            have HBR : Hid (decide ((k : Int) ∈ R) = b) := by
              have : decide ((k : Int) ∈ R) = b := by
                have h1 := HB.out
                rw [List.take_of_length_le (by rw [HN9.out]; exact Nat.le_refl _)] at h1
                rw [h1, ← HR.out]
                exact HCY.out
              exact this
            have bbB : (b != b) = false := by simp
            have BF := BW9.trans (BX.mono BW9.size)
            go_wp2_with (fail)
            refine (wnHas_b (c := c2) (H7.bel BF) (by omega) HBR.out).mono ?_
            rintro e w' ⟨rfl, rfl⟩
            go_wp2
            go_roundw
            case rel => exact ⟨k + 1, by omega, by go_num, BF⟩
            case measure => simp [intOf]; omega
      · have tB : decide (0 ≤ t) = false := decide_eq_false h0
        have HBR := Lib.hid (show decide ((k : Int) ∈ R) = false from by rw [← HR.out]; exact comes_no HOK.out (by have := HL.out; omega) (by have := HL.out; omega) HNE.out HOUT.out h0)
        clear h0
        go_wp2_with (fail)
        refine (wnHas_b (c := c2) (H7.bel BW8) (by omega) HBR.out).mono ?_
        rintro e w' ⟨rfl, rfl⟩
        go_wp2
        go_roundw
        case rel => exact ⟨k + 1, by omega, by go_num, BW8⟩
        case measure => simp [intOf]; omega
    · have hltB : decide ((k : Int) < 10) = false := decide_eq_false (by omega)
      go_wp2
      go_ret
      exact ⟨rfl, bel_trans C7 BW⟩
namespace fnMeetCard
noncomputable def laidWorld (os : Os) : World :=
  { World.holding Tryd.prog os ⟨#[], #[], []⟩ with heap := (((World.holding Tryd.prog os ⟨#[], #[], []⟩).heap.modify 0 (fun | .cells _ t frozen => .cells (ints .u8 tz32).toArray t frozen | o => o)).modify 1 (fun | .cells _ t frozen => .cells (ints .u8 tzTab).toArray t frozen | o => o)) }
theorem laid_met (os : Os) : laidMet Tryd.prog Rows.fnMeetRow.laid ((laidWorld os).forCall (fun _ _ => 0) ⟨#[], #[.slice none 0 0], []⟩).memory :=
  laidMet_of_run' 8 (by kernel_rfl) (by kernel_rfl)
theorem reads (os : Os) {H : Type} (enc : TypeId × Value → H) : ∃ places, DataW.whole enc Tryd.prog ((laidWorld os).forCall (fun _ _ => 0) ⟨#[], #[.slice none 0 0], []⟩).memory Tryd.f3.params.toList Rows.fnMeetSpec.vars false (#[.slice none 0 0] : Array Value).toList 8 = some ([.nil], [], places) :=
  ⟨[], by kernel_rfl⟩
set_option maxRecDepth 100000 in
theorem lifted (os : Os) (started : os.Started) (H : Type) (enc : TypeId × Value → H) (F : Stop.Interp) :
    ReturnsInHanded {} Tryd.checked os 3 .any ((OpenSpec.ofChange Rows.fnMeetSpec).preRow enc Tryd.prog Tryd.f3 Rows.fnMeetRow.domain false Rows.fnMeetRow.laid) (((OpenSpec.ofChange Rows.fnMeetSpec).at F).post enc Tryd.prog Tryd.f3 false true false false) := by
  obtain ⟨places, hx⟩ := reads os enc
  refine returnsInHanded_of_row (C := Tryd.checked) (s := OpenSpec.ofChange Rows.fnMeetSpec) (by kernel_rfl) started (by kernel_rfl) Tryd.func3
    (witness_row_at (enc := enc) (C := Tryd.checked) false (laidWorld os) #[.slice none 0 0] rfl (by kernel_rfl) (by kernel_rfl) (by kernel_rfl)
      (OpenSpec.preRow_of_cond 8 hx (by kernel_rfl) (fun k hk => by cases hk) (by kernel_rfl) (laid_met os))) ?_
  intro W base args ds gs before hval0 hW _ _ _ hL _ _
  have hval : ∀ (j : Nat) t v, Tryd.f3.params[j]? = some t → args[j]? = some v → Value.okWide Tryd.prog W .any base t v := hval0
  have hW' := hW
  obtain ⟨p, q, hA0, hV0, rfl, hfz, hnd⟩ := hW
  have hV : DataW.TrodVars enc Tryd.prog W (fun _ => true) [] gs q := hV0
  have hA : DataW.TrodAll enc Tryd.prog W 0 (fun _ => true) true Tryd.f3.params.toList args.toList ds p := hA0
  rw [Tryd.params3] at hA hval
  obtain ⟨v0, vs0, d0, ds0, p0, q0, hargs, rfl, rfl, h0, r0⟩ := trodAll_cons hA
  obtain ⟨rfl, rfl, rfl⟩ := trodAll_nil r0
  obtain rfl : args = #[v0] := by cases args; simp_all
  obtain ⟨rfl, rfl⟩ := trodVars_none hV
  have Ttz := tz_of (rest := []) (laidMet.filter (fun x => x.1 == "math/bits.deBruijn64tab") (show laidMet Tryd.prog [("math/bits.deBruijn32tab", Rows.laid_math_bits_deBruijn32tab), ("math/bits.deBruijn64tab", Rows.laid_math_bits_deBruijn64tab)] W from hL))
  obtain ⟨a0, len0, cap0, rfl⟩ := okWide_slice Tryd.underlying22 (hval 0 22 v0 rfl rfl)
  have k0 := h0
  have lt0 : ∀ x ∈ p0, x.block < W.heap.size := by obtain ⟨m, hm⟩ := k0; exact DataW.trod_lt m _ _ _ hm
  obtain ⟨z0, H0, U0, M0⟩ := has_of_trod (k := .u8) Tryd.underlying22 Tryd.underlying5 (by kernel_rfl) h0
  clear hA0 hval0
  refine (walk_FnMeet Ttz H0 U0 M0).mono fun e W' ⟨he, bel⟩ => ?_
  subst he
  exact ⟨_, rfl, _, _, _, [], _, [], hW', trodAll_mk1 (shut_bool Tryd.underlying4 _), (trodAll_cons_mk (Below.trod (by kernel_rfl) (by kernel_rfl) (of_decide_eq_true (by kernel_rfl)) k0 bel lt0) trodAll_mk0), rfl, bel.frame _, fun h => by cases h⟩
theorem said : Rows.FnMeetSaid :=
  OpenClaim.holds_of_cond 3 Tryd.f3 rfl rfl rfl rfl rfl rfl rfl ⟨rfl, rfl, rfl, rfl, rfl⟩ rfl rfl rfl rfl rfl (by kernel_rfl) Tryd.func3 (by kernel_rfl)
    (of_decide_eq_true (by kernel_rfl)) (by unfold Func.isWrapper; first | (rw [if_pos (by decide +kernel)]; kernel_rfl) | (rw [if_neg (by decide +kernel)]; exact ⟨rfl, rfl⟩))
    (fun os started H enc _ F => by rw [OpenClaim.pre_eq_preRow]; exact lifted os started H enc F)
theorem plain (f : FuncId) (fn : Func) (hf : Tryd.pinned.checked.prog.funcNamed "loop.example/wholenet/laws.FnMeet" = some f) (hfn : Tryd.pinned.checked.prog.funcs[f]? = some fn) :
    false = Tryd.pinned.checked.prog.looks [] ∧ ∀ (j : Nat) t, fn.params[j]? = some t → Tryd.pinned.checked.prog.wantsStandIn t = false := by
  obtain rfl : f = 3 := Option.some.inj ((show Tryd.prog.funcNamed "loop.example/wholenet/laws.FnMeet" = some 3 by kernel_rfl).symm.trans hf) |>.symm
  obtain rfl : fn = Tryd.f3 := (Option.some.inj (Tryd.func3.symm.trans hfn)).symm
  refine ⟨by kernel_rfl, fun j t ht => ?_⟩
  rw [Tryd.params3] at ht
  obtain rfl : t = 22 := by simpa using Array.mem_of_getElem? ht
  exact (show Tryd.prog.wantsStandIn 22 = false by kernel_rfl)
end fnMeetCard
theorem fnMeet_card : Rows.FnMeetCardSaid :=
  Claim7.holds_tied_plain_at .later [] _ _ _ _ fnMeetCard.said (fun _ h => by cases h) (by kernel_rfl) (fun _ h => by cases h) fnMeet_row_tie rfl ⟨rfl, rfl⟩ (by kernel_rfl) rfl fnMeetCard.plain (by kernel_rfl)
end Go.Proofs.YtiokieancjigeaaDoor
