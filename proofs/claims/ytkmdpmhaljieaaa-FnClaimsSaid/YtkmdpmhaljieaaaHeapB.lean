/-
  Package heap's functions over the heap of messages on their way: what is proved here is that pushing adds a pair, popping takes the least one away, and the rest is a heap. Condition: at most 1,000,000 pairs.
-/
import Derived.Test.YtkmdpmhaljieaaaMathHeap
namespace Go.Proofs.Ytkmdpmhaljieaaa
open Go.RowKit

theorem Fl.bel {w w' : World} {lo p : Nat} {ds : List (Int × Int)} (h : Fl w lo p ds) (hb : Below w.heap.size w w') : Fl w' lo p ds := by
  obtain ⟨hp, A, n, c, h1, h2⟩ := h
  exact ⟨hp, A, n, c, h1.kept (grown_of_below hb) (by simp), h2.kept (grown_of_below hb) (by
    cases hA : (Value.slice A n c).ownBlock with
    | none => exact .inl rfl
    | some k => exact .inr (by simp))⟩
theorem fl_swap {w w' : World} {lo p n c : Nat} {A : Option Addr} {ds ds' : List (Int × Int)} (hp : lo ≤ p) (hb : Boxed w p 91 (.slice A n c)) (h : Pairs w lo A n c ds) (h' : Pairs w' lo A n c ds') (hg : w.grownBy w' (A.map (·.block))) : Fl w' lo p ds' ∧ Fr lo w w' := by
  have hne := hb.not_row (by decide) h
  have hA : (Value.slice A n c).ownBlock = A.map (·.block) := by cases A <;> rfl
  rw [hA] at hne
  exact ⟨⟨hp, A, n, c, hb.kept hg hne, h'⟩, Fr.of_pairs h hg⟩

theorem wrap_chk {P : Program} (a : Addr) (nm : String) (t : TypeId) (w : World) : (Builtin.ssaWrapNilChk_ #[t] t #[.pointer (some a), strVal "", strVal nm]).run P w = .ok (.pointer (some a)) w := rfl
theorem recv_ptr {P : Program} {t e : TypeId} (hu : P.underlying t = some (.pointer e)) (a : Addr) (nm : String) (w : World) : (receiverAt t (.val (.pointer (some a))) false (some nm)).run P w = (loadVar e a).run P w := by
  unfold receiverAt
  simp only [Sem.run_bind, run_underlying hu, Result.andThen_ok, Place.get, Sem.run_pure, wrap_chk, asAddr]
/-- A method with a value receiver, called through a pointer in an interface. -/
theorem run_method_val {P : Program} {t e : TypeId} {f : FuncId} {name : String} (hu : P.underlying t = some (.pointer e))
    (h : (P.info? t).bind (fun i => (i.methods.find? (·.name == name)).map (fun m => (m.path, m.func))) = some (#[], some (f, false))) (fuel : Nat) (a : Addr) (w : World) :
    (method (fuel + 1) t (.pointer (some a)) name).run P w = ((loadVar e a).run P w).andThen fun v w' => .ok (f, v) w' := by
  cases hi : P.info? t with
  | none => rw [hi] at h; cases h
  | some i =>
    rw [hi] at h
    simp only [Option.bind_some] at h
    cases hm : i.methods.find? (·.name == name) with
    | none => rw [hm] at h; cases h
    | some m =>
      rw [hm] at h
      simp only [Option.map_some, Option.some.injEq, Prod.mk.injEq] at h
      obtain ⟨h1, h2⟩ := h
      have ht : ∀ w, (typeInfo t).run P w = .ok i w := fun w => by simp [typeInfo, hi]
      unfold method
      simp only [Sem.run_bind, ht, Result.andThen_ok, hm, h1, h2, follow, Sem.run_pure, List.isEmpty_toArray, List.isEmpty_nil, if_true, recv_ptr hu]
theorem method_Push (a : Addr) (w : World) : (method 257 93 (.pointer (some a)) "Push").run Try.prog w = .ok (139, .pointer (some a)) w := by kernel_rfl
theorem method_Pop (a : Addr) (w : World) : (method 257 93 (.pointer (some a)) "Pop").run Try.prog w = .ok (138, .pointer (some a)) w := by kernel_rfl
theorem method_Len {a : Addr} {A : Option Addr} {n c : Nat} (w : World) (h : w.cell? a = some (.slice A n c)) : (method 257 93 (.pointer (some a)) "Len").run Try.prog w = .ok (87, .slice A n c) w := by
  rw [run_method_val (f := 87) (e := 91) (by kernel_rfl) (by kernel_rfl)]
  simp [loadVar, h]
theorem method_Less {a : Addr} {A : Option Addr} {n c : Nat} (w : World) (h : w.cell? a = some (.slice A n c)) : (method 257 93 (.pointer (some a)) "Less").run Try.prog w = .ok (136, .slice A n c) w := by
  rw [run_method_val (f := 136) (e := 91) (by kernel_rfl) (by kernel_rfl)]
  simp [loadVar, h]
theorem method_Swap {a : Addr} {A : Option Addr} {n c : Nat} (w : World) (h : w.cell? a = some (.slice A n c)) : (method 257 93 (.pointer (some a)) "Swap").run Try.prog w = .ok (137, .slice A n c) w := by
  rw [run_method_val (f := 137) (e := 91) (by kernel_rfl) (by kernel_rfl)]
  simp [loadVar, h]
theorem flightLess_b {w : World} {lo n c i j : Nat} {A : Option Addr} {ds : List (Int × Int)} {b : Bool} (h : Pairs w lo A n c ds) (hi : i < n) (hj : j < n) (hn : n ≤ 16777216) (hb : decide (ltP (atP ds i) (atP ds j)) = b) :
    Calls Try.prog 136 #[.slice A n c, .int .i64 (i : Int), .int .i64 (j : Int)] w fun e w' => e = .returned (.bool b) ∧ Below w.heap.size w w' := by
  rw [← hb]; exact flightLess_any h hi hj hn

theorem flightLess_i {w : World} {lo n c i j : Nat} {A : Option Addr} {ds : List (Int × Int)} {b : Bool} {x y : Int} (h : Pairs w lo A n c ds) (hi : i < n) (hj : j < n) (hn : n ≤ 16777216) (hx : x = (i : Int)) (hy : y = (j : Int)) (hb : decide (ltP (atP ds i) (atP ds j)) = b) :
    Calls Try.prog 136 #[.slice A n c, .int .i64 x, .int .i64 y] w fun e w' => e = .returned (.bool b) ∧ Below w.heap.size w w' := by
  subst hx hy; exact flightLess_b h hi hj hn hb
theorem flightSwap_i {w : World} {lo n c i j : Nat} {A : Option Addr} {ds : List (Int × Int)} {x y : Int} (h : Pairs w lo A n c ds) (hi : i < n) (hj : j < n) (hn : n ≤ 16777216) (hx : x = (i : Int)) (hy : y = (j : Int)) :
    Calls Try.prog 137 #[.slice A n c, .int .i64 x, .int .i64 y] w fun e w' => e = .returned (.tuple #[]) ∧ Pairs w' lo A n c (swp ds i j) ∧ w.grownBy w' (A.map (·.block)) := by
  subst hx hy; exact flightSwap_any h hi hj hn
theorem Pairs.bel {w w' : World} {lo n c : Nat} {A : Option Addr} {ds : List (Int × Int)} (h : Pairs w lo A n c ds) (hb : Below w.heap.size w w') : Pairs w' lo A n c ds :=
  World.ownsRow.kept h (grown_of_below hb) (by cases hA : (Value.slice A n c).ownBlock <;> simp)
theorem boxed_bel {w w' : World} {p : Nat} {t : TypeId} {v : Value} (h : Boxed w p t v) (hb : Below w.heap.size w w') : Boxed w' p t v := h.kept (grown_of_below hb) (by simp)

set_option maxHeartbeats 2000000 in
theorem heapUp_any {w : World} {lo p j : Nat} {ds : List (Int × Int)} (h : Fl w lo p ds) (hj : j < ds.length) (hd : ds.length ≤ 1000000) (hu : HeapUp ds j) :
    Calls Try.prog 95 #[.iface 93 (.pointer (some ⟨p, 0, none⟩)), .int .i64 (j : Int)] w fun e w' => e = .returned (.tuple #[]) ∧ (∃ ds', Fl w' lo p ds' ∧ ds'.Perm ds ∧ HeapN ds' ds'.length) ∧ Fr lo w w' := by
  have H0 := Lib.hid h
  have HU := Lib.hid hu
  clear h hu
  go_enter Try.func95, Try.ntmps95
  go_wp2
  go_loopw [1] (fun t wr => ∃ (q : Nat) (es : List (Int × Int)), t = .int .i64 (q : Int) ∧ q < es.length ∧ Hid (Fl wr lo p es) ∧ Hid (es.Perm ds) ∧ Hid (HeapUp es q) ∧ Hid (Fr lo w wr)) (fun t _ => (intOf t).toNat)
  case atStart => exact ⟨j, ds, rfl, hj, H0, Lib.hid (List.Perm.refl _), HU, Lib.hid (Fr.refl _ _)⟩
  case round =>
    obtain ⟨q, es, rfl, hq, HF, HP, HH, HR⟩ := hrel
    have hlen := HP.out.length_eq
    by_cases h0 : q = 0
    · subst h0
      have hfin : (∃ ds', Fl wr lo p ds' ∧ ds'.Perm ds ∧ HeapN ds' ds'.length) ∧ Fr lo w wr := ⟨⟨es, HF.out, HP.out, up_top HH.out⟩, HR.out⟩
      have HZ := Lib.hid hfin
      clear hfin
      go_wp2
      refine bodyPost_end (results_none rfl _ _ _) rfl ?_
      exact ⟨rfl, HZ.out⟩
    · obtain ⟨r, hr⟩ : ∃ r : Nat, r = (q - 1) / 2 := ⟨_, rfl⟩
      have hr2 : ((q : Int) - 1).tdiv 2 = (r : Int) := by rw [Int.tdiv_eq_ediv_of_nonneg (by omega)]; omega
      have hrq : ((r : Int) == (q : Int)) = false := by simp; omega
      obtain ⟨hp, A, n, c, hb, hP⟩ := HF.out
      have hn := hP.len
      have mL := method_Less (a := ⟨p, 0, none⟩) wr hb.cell
      have hFr := HF.out
      have hrl : r < es.length := by omega
      have HRr := Lib.hid hr
      clear hr
      by_cases hlt : ltP (atP es q) (atP es r)
      · have C1 := Lib.hid (flightLess_b (c := c) (i := q) (j := r) (b := true) hP (by omega) (by omega) (by omega) (by simpa using hlt))
        have HS := Lib.hid (up_step HH.out (by omega) hq HRr.out hlt)
        have HE := Lib.hid (swp_perm (ds := es) (i := r) (j := q) hrl hq)
        clear hlt
        go_wp2_with (first | (go_at_call 136; refine C1.out.mono ?_; rintro e w2 ⟨rfl, B2⟩; have mS := method_Swap (a := ⟨p, 0, none⟩) w2 (hb.kept (grown_of_below B2) (by simp)).cell) | (go_at_call 137; refine (flightSwap_any (lo := lo) (i := r) (j := q) (ds := es) (hP.kept (grown_of_below B2) (by cases hA : (Value.slice A n c).ownBlock <;> simp)) (by omega) (by omega) (by omega)).mono ?_; rintro e w3 ⟨rfl, P3, G3⟩))
        have hsw := fl_swap hp (hb.kept (grown_of_below B2) (by simp)) (hP.kept (grown_of_below B2) (by cases hA : (Value.slice A n c).ownBlock <;> simp)) P3 G3
        exact ⟨⟨r, swp es r q, rfl, by rw [swp_len]; exact hrl, Lib.hid hsw.1, Lib.hid (HE.out.trans HP.out), HS, Lib.hid (HR.out.trans ((Fr.of_below B2).trans hsw.2))⟩, by simp [intOf]; have := HRr.out; omega⟩
      · have C1 := Lib.hid (flightLess_b (c := c) (i := q) (j := r) (b := false) hP (by omega) (by omega) (by omega) (by simpa using hlt))
        have HS := Lib.hid (up_stop HH.out (by rw [← HRr.out]; exact hlt))
        clear hlt
        go_wp2_with (go_at_call 136; refine C1.out.mono ?_; rintro e w2 ⟨rfl, B2⟩)
        refine bodyPost_end (results_none rfl _ _ _) rfl ?_
        exact ⟨rfl, ⟨es, hFr.bel B2, HP.out, HS.out⟩, HR.out.trans (Fr.of_below B2)⟩
theorem heapUp_i {w : World} {lo p j : Nat} {ds : List (Int × Int)} {x : Int} (h : Fl w lo p ds) (hj : j < ds.length) (hd : ds.length ≤ 1000000) (hu : HeapUp ds j) (hx : x = (j : Int)) :
    Calls Try.prog 95 #[.iface 93 (.pointer (some ⟨p, 0, none⟩)), .int .i64 x] w fun e w' => e = .returned (.tuple #[]) ∧ (∃ ds', Fl w' lo p ds' ∧ ds'.Perm ds ∧ HeapN ds' ds'.length) ∧ Fr lo w w' := by
  subst hx; exact heapUp_any h hj hd hu
set_option maxHeartbeats 4000000 in
theorem heapDown_any {w : World} {lo p m : Nat} {ds : List (Int × Int)} (h : Fl w lo p ds) (hm : m ≤ ds.length) (hd : ds.length ≤ 1000000) (hu : HeapDown ds 0 m) :
    Calls Try.prog 96 #[.iface 93 (.pointer (some ⟨p, 0, none⟩)), .int .i64 0, .int .i64 (m : Int)] w fun e w' => (∃ b, e = .returned (.bool b)) ∧ (∃ ds', Fl w' lo p ds' ∧ ds'.Perm ds ∧ HeapN ds' m ∧ ∀ c, m ≤ c → atP ds' c = atP ds c) ∧ Fr lo w w' := by
  have H0 := Lib.hid h
  have HU := Lib.hid hu
  clear h hu
  go_enter Try.func96, Try.ntmps96
  go_wp2
  go_loopw [7] (fun t wr => ∃ (q : Nat) (es : List (Int × Int)), t = .int .i64 (q : Int) ∧ q ≤ 1000000 ∧ Hid (Fl wr lo p es) ∧ Hid (es.Perm ds) ∧ Hid (HeapDown es q m) ∧ Hid (∀ c, m ≤ c → atP es c = atP ds c) ∧ Hid (Fr lo w wr)) (fun t _ => m - (intOf t).toNat)
  case atStart => exact ⟨0, ds, rfl, by omega, H0, Lib.hid (List.Perm.refl _), HU, Lib.hid (fun _ _ => rfl), Lib.hid (Fr.refl _ _)⟩
  case round =>
    obtain ⟨q, es, rfl, hq, HF, HP, HH, HK, HR⟩ := hrel
    have hlen := HP.out.length_eq
    by_cases h1 : 2 * q + 1 < m
    · have h1B : decide ((m : Int) ≤ 2 * (q : Int) + 1) = false := by simp; omega
      have h1C : decide (2 * (q : Int) + 1 ≥ (m : Int)) = false := by simp; omega
      have h0B : decide (2 * (q : Int) + 1 < 0) = false := by simp; omega
      obtain ⟨hp, A, n, c, hb, hP⟩ := HF.out
      have hn := hP.len
      have hFr := HF.out
      have mL := method_Less (a := ⟨p, 0, none⟩) wr hb.cell
      by_cases h2 : 2 * q + 2 < m
      · have h2B : decide (2 * (q : Int) + 2 < (m : Int)) = true := by simp; omega
        have h2C : decide (2 * (q : Int) + 1 + 1 < (m : Int)) = true := by simp; omega
        by_cases hl : ltP (atP es (2 * q + 2)) (atP es (2 * q + 1))
        · skip
          have hKid := Lib.hid (kid_right (ds := es) h2 hl)
          by_cases hlt : ltP (atP es (2 * q + 2)) (atP es q)
          · have HS := Lib.hid (down_step HH.out (by omega) hKid.out hlt)
            go_wp2_with (fail)
            refine (flightLess_i (i := 2 * q + 2) (j := 2 * q + 1) (b := true) hP (by omega) (by omega) (by omega) (by omega) (by omega) (by simpa using hl)).mono ?_
            rintro e v1 ⟨rfl, D1⟩
            have hb1 := boxed_bel hb D1
            have hP1 := Pairs.bel hP D1
            have hF1 := hFr.bel D1
            have mL1 := method_Less (a := ⟨p, 0, none⟩) v1 hb1.cell
            go_wp2_with (fail)
            refine (flightLess_i (i := 2 * q + 2) (j := q) (b := true) hP1 (by omega) (by omega) (by omega) (by omega) (by omega) (by simpa using hlt)).mono ?_
            rintro e v2 ⟨rfl, D2⟩
            have hb4 := boxed_bel hb1 D2
            have hP4 := Pairs.bel hP1 D2
            have mS := method_Swap (a := ⟨p, 0, none⟩) v2 hb4.cell
            go_wp2_with (fail)
            refine (flightSwap_i (i := q) (j := 2 * q + 2) hP4 (by omega) (by omega) (by omega) (by omega) (by omega)).mono ?_
            rintro e v3 ⟨rfl, P3, G3⟩
            have hsw := fl_swap hp hb4 hP4 P3 G3
            have hpr := swp_perm (ds := es) (i := q) (j := 2 * q + 2) (by omega) (by omega)
            have hkp : ∀ c, m ≤ c → atP (swp es q (2 * q + 2)) c = atP ds c := fun c hc => by rw [swp_o (by omega) (by omega) (by omega) (by omega)]; exact HK.out c hc
            go_wp2
            exact ⟨⟨2 * q + 2, swp es q (2 * q + 2), by go_num, by omega, Lib.hid hsw.1, Lib.hid (hpr.trans HP.out), HS, Lib.hid hkp, Lib.hid (HR.out.trans ((Fr.of_below D1).trans ((Fr.of_below D2).trans hsw.2)))⟩, by simp [intOf]; omega⟩
          · have HS := Lib.hid (down_stop HH.out hKid.out hlt)
            go_wp2_with (fail)
            refine (flightLess_i (i := 2 * q + 2) (j := 2 * q + 1) (b := true) hP (by omega) (by omega) (by omega) (by omega) (by omega) (by simpa using hl)).mono ?_
            rintro e v1 ⟨rfl, D1⟩
            have hb1 := boxed_bel hb D1
            have hP1 := Pairs.bel hP D1
            have hF1 := hFr.bel D1
            have mL1 := method_Less (a := ⟨p, 0, none⟩) v1 hb1.cell
            go_wp2_with (fail)
            refine (flightLess_i (i := 2 * q + 2) (j := q) (b := false) hP1 (by omega) (by omega) (by omega) (by omega) (by omega) (by simpa using hlt)).mono ?_
            rintro e v2 ⟨rfl, D2⟩
            go_wp2
            go_ret
            exact ⟨⟨_, rfl⟩, ⟨es, hF1.bel D2, HP.out, HS.out, HK.out⟩, HR.out.trans ((Fr.of_below D1).trans (Fr.of_below D2))⟩
        · skip
          have hKid := Lib.hid (kid_left (ds := es) h1 hl)
          by_cases hlt : ltP (atP es (2 * q + 1)) (atP es q)
          · have HS := Lib.hid (down_step HH.out (by omega) hKid.out hlt)
            go_wp2_with (fail)
            refine (flightLess_i (i := 2 * q + 2) (j := 2 * q + 1) (b := false) hP (by omega) (by omega) (by omega) (by omega) (by omega) (by simpa using hl)).mono ?_
            rintro e v1 ⟨rfl, D1⟩
            have hb1 := boxed_bel hb D1
            have hP1 := Pairs.bel hP D1
            have hF1 := hFr.bel D1
            have mL1 := method_Less (a := ⟨p, 0, none⟩) v1 hb1.cell
            go_wp2_with (fail)
            refine (flightLess_i (i := 2 * q + 1) (j := q) (b := true) hP1 (by omega) (by omega) (by omega) (by omega) (by omega) (by simpa using hlt)).mono ?_
            rintro e v2 ⟨rfl, D2⟩
            have hb4 := boxed_bel hb1 D2
            have hP4 := Pairs.bel hP1 D2
            have mS := method_Swap (a := ⟨p, 0, none⟩) v2 hb4.cell
            go_wp2_with (fail)
            refine (flightSwap_i (i := q) (j := 2 * q + 1) hP4 (by omega) (by omega) (by omega) (by omega) (by omega)).mono ?_
            rintro e v3 ⟨rfl, P3, G3⟩
            have hsw := fl_swap hp hb4 hP4 P3 G3
            have hpr := swp_perm (ds := es) (i := q) (j := 2 * q + 1) (by omega) (by omega)
            have hkp : ∀ c, m ≤ c → atP (swp es q (2 * q + 1)) c = atP ds c := fun c hc => by rw [swp_o (by omega) (by omega) (by omega) (by omega)]; exact HK.out c hc
            go_wp2
            exact ⟨⟨2 * q + 1, swp es q (2 * q + 1), by go_num, by omega, Lib.hid hsw.1, Lib.hid (hpr.trans HP.out), HS, Lib.hid hkp, Lib.hid (HR.out.trans ((Fr.of_below D1).trans ((Fr.of_below D2).trans hsw.2)))⟩, by simp [intOf]; omega⟩
          · have HS := Lib.hid (down_stop HH.out hKid.out hlt)
            go_wp2_with (fail)
            refine (flightLess_i (i := 2 * q + 2) (j := 2 * q + 1) (b := false) hP (by omega) (by omega) (by omega) (by omega) (by omega) (by simpa using hl)).mono ?_
            rintro e v1 ⟨rfl, D1⟩
            have hb1 := boxed_bel hb D1
            have hP1 := Pairs.bel hP D1
            have hF1 := hFr.bel D1
            have mL1 := method_Less (a := ⟨p, 0, none⟩) v1 hb1.cell
            go_wp2_with (fail)
            refine (flightLess_i (i := 2 * q + 1) (j := q) (b := false) hP1 (by omega) (by omega) (by omega) (by omega) (by omega) (by simpa using hlt)).mono ?_
            rintro e v2 ⟨rfl, D2⟩
            go_wp2
            go_ret
            exact ⟨⟨_, rfl⟩, ⟨es, hF1.bel D2, HP.out, HS.out, HK.out⟩, HR.out.trans ((Fr.of_below D1).trans (Fr.of_below D2))⟩
      · have h2B : decide (2 * (q : Int) + 2 < (m : Int)) = false := by simp; omega
        have h2C : decide (2 * (q : Int) + 1 + 1 < (m : Int)) = false := by simp; omega
        have hKid := Lib.hid (kid_one (ds := es) h1 h2)
        by_cases hlt : ltP (atP es (2 * q + 1)) (atP es q)
        · have HS := Lib.hid (down_step HH.out (by omega) hKid.out hlt)
          go_wp2_with (fail)
          refine (flightLess_i (i := 2 * q + 1) (j := q) (b := true) hP (by omega) (by omega) (by omega) (by omega) (by omega) (by simpa using hlt)).mono ?_
          rintro e v2 ⟨rfl, D2⟩
          have hb4 := boxed_bel hb D2
          have hP4 := Pairs.bel hP D2
          have mS := method_Swap (a := ⟨p, 0, none⟩) v2 hb4.cell
          go_wp2_with (fail)
          refine (flightSwap_i (i := q) (j := 2 * q + 1) hP4 (by omega) (by omega) (by omega) (by omega) (by omega)).mono ?_
          rintro e v3 ⟨rfl, P3, G3⟩
          have hsw := fl_swap hp hb4 hP4 P3 G3
          have hpr := swp_perm (ds := es) (i := q) (j := 2 * q + 1) (by omega) (by omega)
          have hkp : ∀ c, m ≤ c → atP (swp es q (2 * q + 1)) c = atP ds c := fun c hc => by rw [swp_o (by omega) (by omega) (by omega) (by omega)]; exact HK.out c hc
          go_wp2
          exact ⟨⟨2 * q + 1, swp es q (2 * q + 1), by go_num, by omega, Lib.hid hsw.1, Lib.hid (hpr.trans HP.out), HS, Lib.hid hkp, Lib.hid (HR.out.trans (((Fr.of_below D2).trans hsw.2)))⟩, by simp [intOf]; omega⟩
        · have HS := Lib.hid (down_stop HH.out hKid.out hlt)
          go_wp2_with (fail)
          refine (flightLess_i (i := 2 * q + 1) (j := q) (b := false) hP (by omega) (by omega) (by omega) (by omega) (by omega) (by simpa using hlt)).mono ?_
          rintro e v2 ⟨rfl, D2⟩
          go_wp2
          go_ret
          exact ⟨⟨_, rfl⟩, ⟨es, hFr.bel D2, HP.out, HS.out, HK.out⟩, HR.out.trans ((Fr.of_below D2))⟩
    · have h1B : decide ((m : Int) ≤ 2 * (q : Int) + 1) = true := by simp; omega
      have h1C : decide (2 * (q : Int) + 1 ≥ (m : Int)) = true := by simp; omega
      have HS := Lib.hid (down_end HH.out (by omega))
      go_wp2
      go_ret
      exact ⟨⟨_, rfl⟩, ⟨es, HF.out, HP.out, HS.out, HK.out⟩, HR.out⟩
set_option maxHeartbeats 1000000 in
theorem heapPush_any {w : World} {lo p : Nat} {x y : Int} {ds : List (Int × Int)} (h : Fl w lo p ds) (hl : lo ≤ w.heap.size) (hd : ds.length < 1000000) (hh : HeapN ds ds.length) :
    Calls Try.prog 86 #[.iface 93 (.pointer (some ⟨p, 0, none⟩)), .iface 95 (.agg #[.int .i64 x, .int .i64 y])] w fun e w' => e = .returned (.tuple #[]) ∧ (∃ ds', Fl w' lo p ds' ∧ ds'.Perm (ds ++ [(x, y)]) ∧ HeapN ds' ds'.length) ∧ Fr lo w w' := by
  have mP := method_Push ⟨p, 0, none⟩
  have hlen : (ds ++ [(x, y)]).length = ds.length + 1 := by simp
  go_enter Try.func86, Try.ntmps86
  go_wp2_with (fail)
  refine (flightPush_any h hl (by omega)).mono ?_
  rintro e w1 ⟨rfl, F1, R1⟩
  have F1' := F1
  obtain ⟨hp1, A, n, c, hb1, hP1⟩ := F1
  have hn := hP1.len
  have mL := method_Len (a := ⟨p, 0, none⟩) w1 hb1.cell
  go_wp2_with (fail)
  refine (flightLen_any _ _ _ _).mono ?_
  rintro e w2 ⟨rfl, rfl⟩
  go_wp2_with (fail)
  refine (heapUp_i (j := ds.length) F1' (by omega) (by omega) (push_start hh) (by omega)).mono ?_
  rintro e w3 ⟨rfl, ⟨es, h1, h2, h3⟩, R3⟩
  go_wp2
  refine bodyPost_end (results_none rfl _ _ _) rfl ?_
  exact ⟨rfl, ⟨es, h1, h2, h3⟩, R1.trans R3⟩
set_option maxHeartbeats 1000000 in
theorem heapPop_any {w : World} {lo p m : Nat} {ds : List (Int × Int)} (h : Fl w lo p ds) (hd : ds.length = m + 1) (hm : m < 1000000) (hh : HeapN ds (m + 1)) :
    Calls Try.prog 88 #[.iface 93 (.pointer (some ⟨p, 0, none⟩))] w fun e w' => e = .returned (.iface 95 (.agg #[.int .i64 (atP ds 0).1, .int .i64 (atP ds 0).2])) ∧ (∃ ds', Fl w' lo p ds' ∧ (atP ds 0 :: ds').Perm ds ∧ HeapN ds' ds'.length) ∧ Fr lo w w' := by
  have mP := method_Pop ⟨p, 0, none⟩
  obtain ⟨hp, A, n, c, hb, hP⟩ := h
  have hn := hP.len
  have mL := method_Len (a := ⟨p, 0, none⟩) w hb.cell
  have mS := method_Swap (a := ⟨p, 0, none⟩) w hb.cell
  have hnn : ((n : Int) - 1) = (m : Int) := by omega
  have hst := Lib.hid (pop_start hh hd)
  have hpr := Lib.hid (swp_perm (ds := ds) (i := 0) (j := m) (by omega) (by omega))
  go_enter Try.func88, Try.ntmps88
  go_wp2_with (fail)
  refine (flightLen_any _ _ _ _).mono ?_
  rintro e w2 ⟨rfl, rfl⟩
  go_wp2_with (fail)
  refine (flightSwap_i (i := 0) (j := m) hP (by omega) (by omega) (by omega) rfl (by omega)).mono ?_
  rintro e w3 ⟨rfl, P3, G3⟩
  have hsw := fl_swap hp hb hP P3 G3
  go_wp2_with (fail)
  refine (heapDown_any (m := m) hsw.1 (by rw [swp_len]; omega) (by rw [swp_len]; omega) hst.out).mono ?_
  rintro e w4 ⟨⟨b4, rfl⟩, ⟨es, F4, E4, N4, K4⟩, R4⟩
  have hl4 : es.length = m + 1 := by rw [E4.length_eq, swp_len, hd]
  have hat : atP es m = atP ds 0 := by rw [K4 m (Nat.le_refl _), swp_j (by omega) (by omega)]
  go_wp2_with (fail)
  refine (flightPop_any F4 hl4 (by omega)).mono ?_
  rintro e w5 ⟨rfl, F5, R5⟩
  have hfin : (∃ ds', Fl w5 lo p ds' ∧ (atP ds 0 :: ds').Perm ds ∧ HeapN ds' ds'.length) ∧ Fr lo w w5 := by
    refine ⟨⟨es.take m, F5, ?_, ?_⟩, hsw.2.trans (R4.trans R5)⟩
    · rw [← hat]; exact (take_perm hl4).trans (E4.trans hpr.out)
    · rw [List.length_take, hl4, Nat.min_eq_left (by omega)]; exact heap_take N4
  rw [hat]
  go_wp2
  go_ret
  exact ⟨rfl, hfin⟩
end Go.Proofs.Ytkmdpmhaljieaaa
