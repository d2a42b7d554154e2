/-
  ArrivalsOf of the program: what is proved here is that it returns what arrives, in order, and writes nothing that was there. Condition: lengths up to 2^24.
-/
import Derived.Test.YtafplpechpoliaaHeapB
import Derived.Test.YtafplpechpoliaaMathArr
namespace Go.Proofs.Ytafplpechpoliaa
open Go.RowKit

theorem copies_any (f : Int) (w : World) : Calls Try.prog 52 #[.int .i64 f] w fun e w' => e = .returned (.int .i64 (((if f = 1 then 0 else if f = 2 then 2 else 1 : Nat) : Nat) : Int)) ∧ w = w' := by
  by_cases h1 : f = 1
  · have h1B : (f == 1) = true := by simp [h1]
    have HE := Lib.hid (show (((if f = 1 then 0 else if f = 2 then 2 else 1 : Nat) : Nat) : Int) = 0 by rw [if_pos h1]; rfl)
    clear h1
    rw [HE.out]
    go_enter Try.func52, Try.ntmps52
    go_wp2
    go_ret
    exact ⟨rfl, rfl⟩
  · have h1B : (f == 1) = false := by simp [h1]
    by_cases h2 : f = 2
    · have h2B : (f == 2) = true := by simp [h2]
      have HE := Lib.hid (show (((if f = 1 then 0 else if f = 2 then 2 else 1 : Nat) : Nat) : Int) = 2 by rw [if_neg h1, if_pos h2]; rfl)
      clear h1 h2
      rw [HE.out]
      go_enter Try.func52, Try.ntmps52
      go_wp2
      go_ret
      exact ⟨rfl, rfl⟩
    · have h2B : (f == 2) = false := by simp [h2]
      have HE := Lib.hid (show (((if f = 1 then 0 else if f = 2 then 2 else 1 : Nat) : Nat) : Int) = 1 by rw [if_neg h1, if_neg h2]; rfl)
      clear h1 h2
      rw [HE.out]
      go_enter Try.func52, Try.ntmps52
      go_wp2
      go_ret
      exact ⟨rfl, rfl⟩
theorem timeOf_any (f : Int) (i : Nat) (w : World) (hi : i ≤ 1000000) : Calls Try.prog 54 #[.int .i64 f, .int .i64 (i : Int)] w fun e w' => e = .returned (.int .i64 (if f = 3 then 2 * (i : Int) + 3 else 2 * (i : Int))) ∧ w = w' := by
  by_cases h1 : f = 3
  · have h1B : (f == 3) = true := by simp [h1]
    rw [if_pos h1]
    clear h1
    go_enter Try.func54, Try.ntmps54
    go_wp2
    go_ret
    exact ⟨rfl, rfl⟩
  · have h1B : (f == 3) = false := by simp [h1]
    rw [if_neg h1]
    clear h1
    go_enter Try.func54, Try.ntmps54
    go_wp2
    go_ret
    exact ⟨rfl, rfl⟩

theorem fl_new (w : World) : Fl (w.alloc (.cells #[.slice none 0 0] 49)) w.heap.size w.heap.size [] :=
  ⟨Nat.le_refl _, none, 0, 0, Boxed.new w _ _, World.ownsRow_nil _ _ _ _⟩
theorem Own.fr {w w' : World} {lo lo' n c : Nat} {A : Option Addr} {xs : List Value} (h : Own w lo 3 A n c xs) (hf : Fr lo' w w') : Own w' lo 3 A n c xs := by
  refine ⟨h.1, ?_⟩
  rcases h.2 with hn | ⟨g, cap, cur, hv, hb, hgg, rest⟩
  · exact .inl hn
  · exact .inr ⟨g, cap, cur, hv, hb, (hf.block g (Array.getElem?_eq_some_iff.1 hgg).1 (.inr ⟨cur, _, _, hgg, by decide, by decide⟩)).trans hgg, rest⟩
theorem Fl.grown {w w' : World} {lo lo' p n c : Nat} {A : Option Addr} {xs : List Value} {ds : List (Int × Int)} (h : Fl w lo p ds) (hO : Own w lo' 3 A n c xs) (hg : w.grownBy w' (A.map (·.block))) : Fl w' lo p ds := by
  obtain ⟨hp, B, m, d, h1, h2⟩ := h
  have hA : (Value.slice A n c).ownBlock = A.map (·.block) := by cases A <;> rfl
  have e1 := h1.not_row (by decide) hO
  rw [hA] at e1
  refine ⟨hp, B, m, d, h1.kept hg e1, World.ownsRow.kept h2 hg ?_⟩
  rw [← hA]
  rcases h2.2 with ⟨hv, _⟩ | ⟨g, cap, cur, hv, _, hgg, _⟩
  · injection hv with hv; subst hv; exact .inl rfl
  · refine .inr fun e => ?_
    rw [hv] at e
    rcases hO.2 with ⟨hv', _⟩ | ⟨g', cap', cur', hv', _, hgg', _⟩
    · rw [hv'] at e; simp [Value.ownBlock] at e
    · rw [hv'] at e
      obtain rfl : g = g' := by simpa [Value.ownBlock] using e
      rw [hgg] at hgg'
      injection hgg' with hh
      injection hh with _ hh
      exact absurd hh (by decide)
theorem run_field_arrival (x y : Int) (w : World) : (Instr.field 57 (.agg #[.int .i64 x, .int .i64 y]) 1).run Try.prog w = .ok (.int .i64 y) w := by kernel_rfl
def sliceLen : Value → Nat
  | .slice _ n _ => n
  | _ => 0

set_option maxHeartbeats 4000000 in
theorem implArrivalsOf_w {A : Option Addr} {n c : Nat} {fs : List Int} {i : Int} {w : World} (h : Has w A n (ints .i64 fs)) (hn : n ≤ 16777216) (hi : -9223372036854775808 ≤ i ∧ i ≤ 9223372036854775807) :
    Calls Try.prog 17 #[.slice A n c, .int .i64 i] w fun e w' => ∃ A' n' c', e = .returned (.slice A' n' c') ∧ Own w' w.heap.size 3 A' n' c' (ints .i64 (arrI fs i)) ∧ Below w.heap.size w w' := by
  obtain ⟨i0, hj, hz0, hz1, hz2⟩ := info_parts Try.infoInt
  have C := Lib.hid (canSend_any (c := c) h hn hi)
  have hnil : Own w w.heap.size 3 none 0 0 (ints .i64 []) := ⟨rfl, .inl ⟨rfl, rfl⟩⟩
  by_cases hg : fOk fs ∧ 0 ≤ i ∧ i ≤ 60
  · rw [decide_eq_true hg] at C
    obtain ⟨m, rfl⟩ := Int.eq_ofNat_of_zero_le hg.2.1
    have hm : m ≤ 60 := by omega
    have HE := Lib.hid (show arrI fs (m : Int) = arrF fs m by unfold arrI; rw [if_pos hg]; rfl)
    have hf0 := Lib.hid (fl_new w)
    have hr0 : Hid (Fr w.heap.size w (w.alloc (.cells #[.slice none 0 0] 49))) := Fr.of_below ((Below.refl _ _).alloc (Nat.le_refl _) _)
    have ta := run_assert_arrival
    have tf := run_field_arrival
    clear hg hi hnil
    go_enter Try.func17, Try.ntmps17
    go_wp2_with (go_at_call 50; refine C.out.mono ?_; rintro e w' ⟨rfl, rfl⟩)
    go_loopw [14] (fun t wr => ∃ (k : Nat) (ds : List (Int × Int)), t = .int .i64 (k : Int) ∧ k ≤ m ∧ Hid (Fl wr w.heap.size w.heap.size ds) ∧ Hid (ds.Perm (prsTo fs k)) ∧ Hid (HeapN ds ds.length) ∧ Hid (Fr w.heap.size w wr)) (fun t _ => m - (intOf t).toNat)
    case atStart => exact ⟨0, [], rfl, Nat.zero_le _, hf0, Lib.hid (List.Perm.refl _), Lib.hid (fun c _ hc => absurd hc (by simp)), hr0⟩
    case round =>
      obtain ⟨k, ds, rfl, hk, HF, HP, HH, HR⟩ := hrel
      by_cases hlt : k < m
      · have hltB : decide ((k : Int) < (m : Int)) = true := by simp; omega
        have hBel := HR.out.below (Nat.le_refl _)
        have HW : Hid (wantN fs k = if fateN fs k = 1 then 0 else if fateN fs k = 2 then 2 else 1) := rfl
        have HT : Hid (tmN fs k = if fateN fs k = 3 then 2 * (k : Int) + 3 else 2 * (k : Int)) := rfl
        have hw2 := wantN_le fs k
        have HS : Hid (prsTo fs (k + 1) = prsTo fs k ++ List.replicate (wantN fs k) (tmN fs k, (k : Int))) := rfl
        have hpl := prsTo_len fs k
        go_wp2_with (fail)
        refine (fateAt_any (c := c) k (h.bel hBel) hn).mono ?_
        rintro e w1 ⟨rfl, rfl⟩
        go_wp2_with (fail)
        refine (copies_any _ _).mono ?_
        rintro e w1 ⟨rfl, rfl⟩
        rw [← HW.out]
        generalize wantN fs k = want at *
        go_wp2
        go_loopw [22] (fun t wr2 => ∃ (q : Nat) (es : List (Int × Int)), t = .int .i64 (q : Int) ∧ q ≤ want ∧ Hid (Fl wr2 w.heap.size w.heap.size es) ∧ Hid (es.Perm (prsTo fs k ++ List.replicate q (tmN fs k, (k : Int)))) ∧ Hid (HeapN es es.length) ∧ Hid (Fr w.heap.size w wr2)) (fun t _ => want - (intOf t).toNat)
        case atStart => exact ⟨0, ds, rfl, Nat.zero_le _, HF, Lib.hid (by rw [List.replicate_zero, List.append_nil]; exact HP.out), HH, HR⟩
        case round =>
          rename_i wr2
          obtain ⟨q, es, rfl, hq, HF2, HP2, HH2, HR2⟩ := hrel
          by_cases hlq : q < want
          · have hqB : decide ((q : Int) < (want : Int)) = true := by simp; omega
            have hes : es.length = (prsTo fs k).length + q := by rw [HP2.out.length_eq]; simp
            have hge := HR2.out.size
            go_wp2_with (fail)
            refine (timeOf_any _ k _ (by omega)).mono ?_
            rintro e w2 ⟨rfl, rfl⟩
            rw [← HT.out]
            go_wp2_with (fail)
            refine (heapPush_any HF2.out hge (by omega) HH2.out).mono ?_
            rintro e w3 ⟨rfl, ⟨es3, F3, P3, N3⟩, R3⟩
            have P4 := P3.trans (List.Perm.append_right [(tmN fs k, (k : Int))] HP2.out)
            rw [List.append_assoc, ← List.replicate_succ'] at P4
            have HP4 := Lib.hid P4
            have HF4 := Lib.hid F3
            have HN4 := Lib.hid N3
            have HR4 := Lib.hid (HR2.out.trans R3)
            clear P3 P4 F3 N3 R3
            go_wp2
            go_roundw
            case rel => exact ⟨q + 1, es3, by go_num, by omega, HF4, HP4, HN4, HR4⟩
            case measure => simp [intOf]; omega
          · have hqB : decide ((q : Int) < (want : Int)) = false := by simp; omega
            obtain rfl : q = want := by omega
            have HP5 := HP2.out
            rw [← HS.out] at HP5
            have HP6 := Lib.hid HP5
            clear HP5
            go_wp2
            go_roundw
            case rel => exact ⟨k + 1, es, by go_num, by omega, HF2, HP6, HH2, HR2⟩
            case measure => simp [intOf]; omega
      · have hltB : decide ((k : Int) < (m : Int)) = false := by simp; omega
        obtain rfl : k = m := by omega
        have hBel := HR.out.below (Nat.le_refl _)
        have hge := hBel.size
        have hdl : ds.length ≤ 120 := by have := prsTo_len fs k; have := HP.out.length_eq; omega
        obtain ⟨_, B, l, d, hb, hP⟩ := HF.out
        have hl := hP.len
        have hcell := hb.cell
        go_wp2_with (fail)
        refine (flightLen_any _ _ _ _).mono ?_
        rintro e w1 ⟨rfl, rfl⟩
        go_wp2_with (at_make; refine wpList_make_own _ rfl _ _ 23 rfl w.heap.size 3 i0 (.int .i64 0) 1 Try.underlying23 hj hz0 hz1 .i64 .i64 _ l rfl rfl rfl (by rw [hz2]; omega) (by unfold maxLen; omega) hge ?_; intro w1 hown hgrow)
        have hb1 : Below wr.heap.size wr w1 := below_of_grown hgrow (Nat.le_refl _) (fun k hk => by cases hk)
        have HF1 := Lib.hid (HF.out.bel hb1)
        have HB1 := Lib.hid (hBel.trans (hb1.mono hge))
        have HO1 : Own w1 w.heap.size 3 (some ⟨wr.heap.size, 0, none⟩) 0 l (ints .i64 (([] : List (Int × Int)).map (·.2))) := hown
        clear hown hgrow hb hP hcell
        go_loopw [8] (fun v wr2 => ∃ (es o : List (Int × Int)) (A' : Option Addr) (q c' : Nat), v = .slice A' q c' ∧ Hid (q = o.length) ∧ o.length + es.length ≤ 120 ∧ Hid (Own wr2 w.heap.size 3 A' q c' (ints .i64 (o.map (·.2)))) ∧ Hid (Fl wr2 w.heap.size w.heap.size es) ∧ Hid ((o ++ es).Perm (prsTo fs k)) ∧ Hid (HeapN es es.length) ∧ Hid (o.Pairwise (fun a b => ¬ ltP b a)) ∧ Hid (∀ a ∈ o, ∀ b ∈ es, ¬ ltP b a) ∧ Hid (Below w.heap.size w wr2)) (fun v _ => 200 - sliceLen v)
        case atStart => exact ⟨ds, [], _, 0, l, rfl, Lib.hid rfl, by simpa using hdl, Lib.hid HO1, HF1, Lib.hid (by simpa using HP.out), HH, Lib.hid List.Pairwise.nil, Lib.hid (fun a ha => by cases ha), HB1⟩
        case round =>
          rename_i wr2
          obtain ⟨es, o, A', q, c', rfl, HQO, hle, HO, HF2, HP2, HH2, HS2, HL2, HB2⟩ := hrel
          have hge2 := HB2.out.size
          obtain ⟨_, B2, l2, d2, hb2, hP2⟩ := HF2.out
          have hl2 := hP2.len
          have hcell2 := hb2.cell
          by_cases hz : l2 = 0
          · have hzB : decide ((l2 : Int) > 0) = false := by simp; omega
            have hzC : decide (0 < (l2 : Int)) = false := by simp; omega
            have he : es = [] := List.length_eq_zero_iff.1 (by omega)
            subst he
            have hp3 := HP2.out
            rw [List.append_nil] at hp3
            have HQ := Lib.hid (popped_eq hp3 HS2.out)
            clear hp3 hb2 hP2
            go_wp2_with (fail)
            refine (flightLen_any _ _ _ _).mono ?_
            rintro e w3 ⟨rfl, rfl⟩
            go_wp2
            go_ret
            exact ⟨_, _, _, rfl, by rw [HE.out, ← HQ.out]; exact HO.out, HB2.out⟩
          · have hzB : decide ((l2 : Int) > 0) = true := by simp; omega
            have hzC : decide (0 < (l2 : Int)) = true := by simp; omega
            obtain ⟨r, hr⟩ : ∃ r, l2 = r + 1 := ⟨l2 - 1, by omega⟩
            have hes : es.length = r + 1 := by omega
            have hmin : ∀ b ∈ es, ¬ ltP b (atP es 0) := fun b hb => by
              obtain ⟨c0, h1, rfl⟩ := mem_atP hb
              exact root_min HH2.out c0 h1
            have HM := Lib.hid hmin
            have HN2 : Hid (HeapN es (r + 1)) := by rw [← hes]; exact HH2
            clear hmin hb2 hP2
            have hq200 : q ≤ 120 := by have := HQO.out; omega
            have hr2 : r < 1000000 := by omega
            clear hr
            go_wp2_with (fail)
            refine (flightLen_any _ _ _ _).mono ?_
            rintro e w3 ⟨rfl, rfl⟩
            go_wp2_with (fail)
            refine (heapPop_any HF2.out hes hr2 HN2.out).mono ?_
            rintro e w4 ⟨rfl, ⟨es4, F4, P4, N4⟩, R4⟩
            have hnx := pop_next HP2.out HS2.out HL2.out P4 HM.out
            have hl4 := P4.length_eq
            have HNX := Lib.hid hnx
            have O4 := HO.out.fr R4
            have B4 := HB2.out.trans (R4.below hge2)
            have hge4 := B4.size
            have HF4 := Lib.hid F4
            have HN4 := Lib.hid N4
            clear P4 F4 N4 R4 hnx
            generalize atP es 0 = x at *
            obtain ⟨x1, x2⟩ := x
            go_wp2_with (at_builtin; refine wpList_apps _ rfl (.tmp 40) (.tmp 45) 23 rfl w.heap.size 3 i0 (.int .i64 0) 8 Try.underlying23 hj hz0 hz1 hz2 rfl A' q c' _ rfl O4 1 1 #[.int .i64 x2] rfl rfl (by simp [Value.oneCell']) (by decide) (by omega) (by decide) (by omega) ?_; intro g5 c5 w5 O5 G5 B5 _)
            have HF5 := Lib.hid (HF4.out.grown O4 G5)
            have HB5 := Lib.hid (B4.trans B5)
            have e5 : ints .i64 (o.map (·.2)) ++ (#[Value.int .i64 x2] : Array Value).toList = ints .i64 ((o ++ [(x1, x2)]).map (·.2)) := by simp [ints]
            rw [e5] at O5
            have HO5 := Lib.hid O5
            clear O5 G5 B5 B4 O4
            go_roundw
            case rel => exact ⟨es4, o ++ [(x1, x2)], _, _, _, rfl, Lib.hid (by rw [List.length_append, HQO.out]; rfl), by simp at hl4 ⊢; omega, HO5, HF5, Lib.hid HNX.out.1, HN4, Lib.hid HNX.out.2.1, Lib.hid HNX.out.2.2, HB5⟩
            case measure => simp [sliceLen]; omega
  · rw [decide_eq_false hg] at C
    have HE := Lib.hid (show arrI fs i = [] by unfold arrI; rw [if_neg hg])
    clear hg
    go_enter Try.func17, Try.ntmps17
    go_wp2_with (go_at_call 50; refine C.out.mono ?_; rintro e w' ⟨rfl, rfl⟩)
    go_ret
    exact ⟨_, _, _, rfl, by rw [HE.out]; exact hnil, Below.refl _ _⟩
end Go.Proofs.Ytafplpechpoliaa
