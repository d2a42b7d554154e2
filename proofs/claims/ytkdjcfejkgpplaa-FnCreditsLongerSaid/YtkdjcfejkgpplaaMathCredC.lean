/-
  Chapter 13's mathematics, as its laws put it. No condition.
-/
import Derived.Test.YtkdjcfejkgpplaaMathCredB
namespace Go.Proofs.Ytkdjcfejkgpplaa

theorem credI_none {a d m : Int} {ds : List Int} {s : Int} (h : ¬ credOk a d m ds s) : credI a d m ds s = CR.zero := if_neg h
theorem credI_nat {a d m : Int} {ds : List Int} {s : Int} (h : credOk a d m ds s) : ∃ a' d' m' s' : Nat, a = a' ∧ d = d' ∧ m = m' ∧ s = s' ∧ 1 ≤ a' ∧ 1 ≤ d' ∧ credI a d m ds s = runC a' d' m' (opOf ds) s' := by
  have e := h
  obtain ⟨⟨h1, h2, h3⟩, h4, h5⟩ := h
  unfold slotOk at h5
  refine ⟨a.toNat, d.toNat, m.toNat, s.toNat, by omega, by omega, by omega, by omega, by omega, by omega, if_pos e⟩
theorem beq_dec (k : Nat) (m : Nat) : ((k : Int) == (m : Int)) = decide (k = m) := by
  by_cases e : k = m
  · simp [e]
  · have : ¬ (k : Int) = (m : Int) := by omega
    simp [e, this]
theorem credI_room {a d m : Int} {ds : List Int} {s : Int} {R : CR} (h : credOk a d m ds s) (hR : credI a d m ds s = R) : (R.m : Int) ≤ a ∧ R.k ≤ R.s ∧ (R.s : Int) ≤ m ∧ (R.s : Int) - (R.k : Int) ≤ a ∧ ((R.k : Int) == m) = R.f ∧ (R.t : Int) ≤ s := by
  obtain ⟨a', d', m', s', rfl, rfl, rfl, rfl, _, hd, e⟩ := credI_nat h
  rw [← hR, e]
  obtain ⟨h1, h2, h3, h4, h5, h6, _⟩ := run_room (room := a') (many := m') (op := opOf ds) hd s'
  rw [h6, beq_dec]
  exact ⟨by omega, h2, by omega, by omega, rfl, by omega⟩
theorem credI_longer {a d m : Int} {ds : List Int} {s u : Int} {R : CR} (h : credOk a d m ds s) (hu : s ≤ u ∧ u ≤ 3000) (hR : credI a d m ds s = R) :
    credOk a d m ds u ∧ (R.f = true → credI a d m ds u = R) ∧ (R.f = false → (R.t : Int) = s ∧ R.k ≤ (credI a d m ds u).k ∧ R.s ≤ (credI a d m ds u).s ∧ R.m ≤ (credI a d m ds u).m) := by
  have h' : credOk a d m ds u := ⟨h.1, h.2.1, by have := h.2.2; unfold slotOk at this ⊢; omega⟩
  refine ⟨h', ?_⟩
  have e' : credI a d m ds u = runC a.toNat d.toNat m.toNat (opOf ds) u.toNat := if_pos h'
  have e : credI a d m ds s = runC a.toNat d.toNat m.toNat (opOf ds) s.toNat := if_pos h
  have h5 := h.2.2
  unfold slotOk at h5
  have hd := h.1.2.1
  have hl := run_longer (room := a.toNat) (d := d.toNat) (many := m.toNat) (op := opOf ds) (by omega) (show s.toNat ≤ u.toNat by omega)
  rw [e', ← hR, e]
  refine ⟨hl.1, fun hf => ?_⟩
  obtain ⟨q1, q2, q3, q4⟩ := hl.2 hf
  exact ⟨by rw [q1]; omega, q2, q3, q4⟩
theorem credI_open {a d m : Int} {ds : List Int} {s : Int} {R : CR} (h : credOk a d m ds s) (hR : credI a d m ds s = R) : ((R.t : Int) ≤ d → R.k = 0) ∧ (d < (R.t : Int) → (R.k : Int) ≤ openI ds d ((R.t : Int) - d)) := by
  have hr := credI_room h hR
  have h4 := h.2.1
  have h5 := h.2.2
  have h2 := h.1.2.1
  unfold slotOk at h5
  obtain ⟨a', d', m', s', rfl, rfl, rfl, rfl, _, hd, e⟩ := credI_nat h
  rw [← hR, e] at hr ⊢
  obtain ⟨q1, q2⟩ := run_open (room := a') (many := m') (op := opOf ds) hd s'
  refine ⟨fun hh => q1 (by omega), fun hh => ?_⟩
  have := q2 (by omega)
  unfold openI
  rw [if_pos ⟨h4, by unfold slotOk; omega, by unfold slotOk; omega⟩]
  have e1 : ((d' : Int)).toNat = d' := by omega
  have e2 : (((runC a' d' m' (opOf ds) s').t : Int) - (d' : Int)).toNat = (runC a' d' m' (opOf ds) s').t - d' := by omega
  rw [e1, e2]
  omega
theorem slots_or (a d m : Int) : slotsI a d m = -1 ∨ 0 ≤ slotsI a d m := by
  unfold slotsI
  split
  · split
    · exact .inr (by omega)
    · exact .inl rfl
  · exact .inl rfl
theorem slots_full {a d m n : Int} (hn : slotsI a d m = n) (h0 : 0 ≤ n) : fitsOk a d m ∧ n ≤ 3000 ∧ (m = 0 → n = 0) ∧ (1 ≤ m → 2 * d ≤ a → n = m + d) ∧ (1 ≤ m → a < 2 * d → m + d ≤ n ∧ n = (m - 1) / a * (2 * d) + d + 1 + (m - 1) % a) := by
  by_cases hf : fitsOk a d m
  rotate_left
  · have : slotsI a d m = -1 := if_neg hf
    omega
  refine ⟨hf, ?_⟩
  have e1 : slotsI a d m = if (runC a.toNat d.toNat m.toNat (fun _ => true) 3000).f then ((runC a.toNat d.toNat m.toNat (fun _ => true) 3000).t : Int) else -1 := if_pos hf
  obtain ⟨g1, g2, g3⟩ := hf
  obtain ⟨a, rfl⟩ := Int.eq_ofNat_of_zero_le (show 0 ≤ a by omega)
  obtain ⟨d, rfl⟩ := Int.eq_ofNat_of_zero_le (show 0 ≤ d by omega)
  obtain ⟨m, rfl⟩ := Int.eq_ofNat_of_zero_le g3.1
  simp only [Int.toNat_natCast] at e1
  cases hfin : (runC a d m (fun _ => true) 3000).f with
  | false => rw [hfin] at e1; simp only [Bool.false_eq_true, if_false] at e1; omega
  | true =>
    rw [hfin, if_pos rfl] at e1
    have hr := (run_room (room := a) (many := m) (op := fun _ => true) (show 1 ≤ d by omega) 3000).2.2.2.2.1
    have h1 := run_full (show 1 ≤ a by omega) (show 1 ≤ d by omega) hfin
    rw [← hn, e1]
    refine ⟨by omega, fun hm => ?_, fun hm ha => ?_, fun hm ha => ?_⟩
    · rw [h1.1 (by omega)]; rfl
    · have := (full_slots (show 1 ≤ a by omega) (show 1 ≤ d by omega) hfin (by omega)).1 (by omega)
      rw [this]; omega
    · obtain ⟨q1, q2⟩ := (full_slots (show 1 ≤ a by omega) (show 1 ≤ d by omega) hfin (by omega)).2 (by omega)
      refine ⟨by omega, ?_⟩
      rw [q2]
      have e2 : (m : Int) - 1 = ((m - 1 : Nat) : Int) := by omega
      rw [e2]
      simp only [Int.natCast_add, Int.natCast_mul, Int.natCast_ediv, Int.natCast_emod]
      rfl
theorem open_or (ds : List Int) (f n : Int) : openI ds f n = -1 ∨ 0 ≤ openI ds f n := by
  unfold openI
  split
  · exact .inr (by omega)
  · exact .inl rfl
theorem open_parts {ds : List Int} {f n r : Int} (hr : openI ds f n = r) (h0 : 0 ≤ r) : (0 ≤ f ∧ f ≤ 3000) ∧ (0 ≤ n ∧ n ≤ 3000) ∧ r ≤ n ∧ 0 ≤ openI ds f (n / 3) ∧ openI ds f (n / 3) ≤ 3000 ∧ (f + n / 3 ≤ 3000 → openI ds f (n / 3) + openI ds (f + n / 3) (n - n / 3) = r) := by
  by_cases hf : drainOk ds ∧ slotOk f ∧ slotOk n
  rotate_left
  · have : openI ds f n = -1 := if_neg hf
    omega
  have e1 : openI ds f n = (cntF (opOf ds) f.toNat n.toNat : Int) := if_pos hf
  obtain ⟨h1, h2, h3⟩ := hf
  have e2 : openI ds f (n / 3) = (cntF (opOf ds) f.toNat (n / 3).toNat : Int) := if_pos ⟨h1, h2, by unfold slotOk at h3 ⊢; omega⟩
  have l1 := cntF_le (opOf ds) f.toNat n.toNat
  have l2 := cntF_le (opOf ds) f.toNat (n / 3).toNat
  unfold slotOk at h2 h3
  refine ⟨h2, h3, by omega, by omega, by omega, fun hle => ?_⟩
  have e3 : openI ds (f + n / 3) (n - n / 3) = (cntF (opOf ds) (f + n / 3).toNat (n - n / 3).toNat : Int) := if_pos ⟨h1, by unfold slotOk; omega, by unfold slotOk; omega⟩
  have hs := cntF_split (opOf ds) f.toNat (n / 3).toNat (n - n / 3).toNat
  rw [show (n / 3).toNat + (n - n / 3).toNat = n.toNat by omega, show f.toNat + (n / 3).toNat = (f + n / 3).toNat by omega] at hs
  omega
end Go.Proofs.Ytkdjcfejkgpplaa
