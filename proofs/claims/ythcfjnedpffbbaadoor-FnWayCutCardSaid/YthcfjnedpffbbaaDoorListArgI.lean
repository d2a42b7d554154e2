/-
  Lists of slices of ints that come in: what is proved here is how they are opened, and how their size is told. No condition.
-/
import Derived.Test.YthcfjnedpffbbaaDoorListLawsI
import Derived.Deep.Matrix
namespace Go.Proofs.YthcfjnedpffbbaaDoor
open Go.RowKit

open Go.ChangeShapes Go.WideShapes Go.ChangeAt in
/-- A list of slices of ints that came in. -/
theorem hasLI_of_trod {H : Type} {enc : TypeId × Value → H} {P : Program} {W : World} {base : Nat} {held : Bool} {t e q : TypeId} {A : Option Addr} {n c : Nat} {d : DataW H} {p : List MemPlace}
    (ht : P.underlying t = some (.slice e)) (he : P.underlying e = some (.slice q)) (hq : P.underlying q = some (.int .i64)) (ce : P.cellsOf e = 1) (cq : P.cellsOf q = 1) (h : DataW.Trod enc P W base (fun _ => true) held t (.slice A n c) d p) :
    ∃ l, HasLI W A n l ∧ (∀ zs ∈ l, ∀ z ∈ zs, (Lit.int .i64 z).wf = true) ∧ (∀ zs ∈ l, zs.length ≤ maxLen) ∧ n ≤ c ∧ c ≤ maxLen := by
  obtain ⟨fuel, hf⟩ := h
  rcases Go.Deep.open_int_rows ht he hq ce cq hf with ⟨hcs, _⟩ | ⟨a, len, cap, A', L, C, Z, hcs, _, hl, hm, _, hr⟩
  · simp [Value.cells] at hcs
    obtain ⟨rfl, rfl, rfl⟩ := hcs
    exact ⟨[], ⟨[], ⟨rfl, fun i hi => absurd hi (by omega)⟩, rfl, fun i v zs hv _ => by simp at hv⟩, by simp, by simp, by simp⟩
  · simp [Value.cells] at hcs
    obtain ⟨rfl, rfl, rfl⟩ := hcs
    have hinner : ∀ r, r < n → Has W (A' r) (L r) (ints .i64 ((Z r).take (L r))) := by
      intro r hrn
      obtain ⟨_, r1, r2, r3, r4, r5, r6⟩ := hr r (by omega)
      refine ⟨by rw [ints_length, List.length_take]; omega, fun i hi => ?_⟩
      rcases hA : A' r with _ | a'
      · have := r5 hA; omega
      · obtain ⟨_, hc⟩ := r6 a' hA
        obtain ⟨b, off, spot⟩ := a'
        have hspot : spot = none := by
          have h0 := hc 0 (by omega)
          simpa [Addr.add] using World.cell?_spot h0
        subst hspot
        have hadd : (⟨b, off, none⟩ : Addr).add i = ⟨b, off + i, none⟩ := by unfold Addr.add; split <;> simp_all
        have hci := hc i (by omega)
        rw [hadd] at hci
        refine ⟨b, off, rfl, ?_⟩
        rw [hci, ints_at .i64 _ i (by rw [List.length_take]; omega)]
        congr 2
        simp [List.getD, hi]
    refine ⟨(List.range n).map fun r => (Z r).take (L r), ⟨(List.range n).map fun r => .slice (A' r) (L r) (C r), ⟨by simp, fun i hi => ?_⟩, by simp, fun i v zs hv hz => ?_⟩, ?_, ?_, hl, hm⟩
    · have h0 := (hr 0 (by omega)).1
      obtain ⟨b, off, spot⟩ := a
      have hspot : spot = none := by simpa [Addr.add] using World.cell?_spot h0
      subst hspot
      have hadd : (⟨b, off, none⟩ : Addr).add i = ⟨b, off + i, none⟩ := by unfold Addr.add; split <;> simp_all
      have hci := (hr i (by omega)).1
      rw [hadd] at hci
      exact ⟨b, off, rfl, by rw [hci]; simp [hi]⟩
    · have hi : i < n := by have := (List.getElem?_eq_some_iff.1 hv).1; simpa using this
      simp [hi] at hv hz
      subst hv hz
      exact ⟨_, _, _, rfl, (hr i (by omega)).2.1, hinner i hi⟩
    · intro zs hzs z hz
      simp only [List.mem_map, List.mem_range] at hzs
      obtain ⟨r, hrn, rfl⟩ := hzs
      exact (hr r (by omega)).2.2.2.2.1 z (List.mem_of_mem_take hz)
    · intro zs hzs
      simp only [List.mem_map, List.mem_range] at hzs
      obtain ⟨r, hrn, rfl⟩ := hzs
      have h1 := (hr r (by omega)).2.1
      have h2 := (hr r (by omega)).2.2.1
      rw [List.length_take]
      omega

theorem szIntS_any {A : Option Addr} {n c : Nat} {L : Int} {w : World} (hn : n ≤ 9223372036854775807) (hL : 0 ≤ L ∧ L ≤ 1048576) : Calls Tryd.prog 75 #[.slice A n c, .int .i64 L] w fun e w' => e = .returned (.int .i64 (if L < n then -1 else L - n)) ∧ w = w' := by
  obtain ⟨l0, l1⟩ := hL
  by_cases h : L < (n : Int)
  · rw [if_pos h]
    go_enter Tryd.func75, Tryd.ntmps75
    go_wp2
    go_ret
    exact ⟨rfl, rfl⟩
  · rw [if_neg h]
    go_enter Tryd.func75, Tryd.ntmps75
    go_wp2
    go_ret
    exact ⟨rfl, rfl⟩
set_option maxHeartbeats 1000000 in
theorem szIntSS_any {A : Option Addr} {n c : Nat} {l : List (List Int)} {w : World} {K : Int} (hK : 0 ≤ K ∧ K ≤ 1048576) (h : HasLI w A n l) (hn : n ≤ 9223372036854775807) (hlen : ∀ zs ∈ l, zs.length ≤ 9223372036854775807) :
    Calls Tryd.prog 39 #[.slice A n c, .int .i64 K] w fun e w' => ∃ v, e = .returned (.int .i64 v) ∧ -1 ≤ v ∧ v ≤ 1048576 ∧ (0 ≤ v → (n : Int) + (sumLenI l : Int) ≤ K) ∧ w = w' := by
  have HL := Lib.hid h.len
  obtain ⟨K0, K1⟩ := hK
  by_cases hnn : K < (n : Int)
  · go_enter Tryd.func39, Tryd.ntmps39
    go_wp2
    go_ret
    exact ⟨-1, rfl, by omega, by omega, by omega, rfl⟩
  · have hn2 : n ≤ 1048576 := by omega
    go_enter Tryd.func39, Tryd.ntmps39
    go_wp2
    go_loop [1, 5] (fun q i => ∃ k : Nat, ∃ v : Int, k ≤ n ∧ 0 ≤ v ∧ v ≤ 1048576 ∧ i = .int .i64 k ∧ q = .int .i64 v ∧ Hid (v = K - (n : Int) - (sumLenI (l.take k) : Int))) (fun _ i => n - (intOf i).toNat)
    case atStart => exact ⟨0, K - (n : Int), Nat.zero_le _, by omega, by omega, rfl, rfl, (by simp [sumLenI] : (K - (n : Int) = K - (n : Int) - (sumLenI (l.take 0) : Int)))⟩
    case round =>
      obtain ⟨k, v, hk, v0, v1, rfl, rfl, HV⟩ := hrel
      by_cases hlt : k < n
      · have hltB : decide ((k : Int) < (n : Int)) = true := by simp; omega
        obtain ⟨b, o, X, q, d, p, rfl, hbl, hp, hc, hqd, hX⟩ := h.at_ hlt
        have hpl := hlen p (List.mem_of_getElem? hp)
        obtain rfl : q = p.length := hX.len.symm
        have HS := Lib.hid (sumLenI_snoc l k p hp)
        have CH := Lib.hid (szIntS_any (A := X) (n := p.length) (c := d) (L := v) (w := w) hpl ⟨v0, v1⟩)
        clear hp
        by_cases hv : v < (p.length : Int)
        · rw [if_pos hv] at CH
          go_wp2_with (fail)
          refine CH.out.mono ?_
          rintro e w' ⟨rfl, rfl⟩
          go_wp2
          go_ret
          exact ⟨-1, rfl, by omega, by omega, by omega, rfl⟩
        · rw [if_neg hv] at CH
          have hvB : decide (v - (p.length : Int) < 0) = false := by simp; omega
          go_wp2_with (fail)
          refine CH.out.mono ?_
          rintro e w' ⟨rfl, rfl⟩
          go_wp2
          go_round
          case rel => exact ⟨k + 1, v - (p.length : Int), by omega, by omega, by omega, by go_num, rfl, (by have h1 := HV.out; have h2 := HS.out; omega : v - (p.length : Int) = K - (n : Int) - (sumLenI (l.take (k + 1)) : Int))⟩
          case measure => simp [intOf]; omega
      · obtain rfl : k = n := by omega
        have HE := Lib.hid (show sumLenI (l.take k) = sumLenI l by rw [List.take_of_length_le (by rw [HL.out]; omega)])
        go_wp2
        go_ret
        exact ⟨v, rfl, by omega, v1, fun _ => by have h1 := HV.out; have h2 := HE.out; omega, rfl⟩
theorem len_le_sumI (l : List (List Int)) : ∀ p ∈ l, p.length ≤ sumLenI l := by
  induction l with
  | nil => intro p hp; cases hp
  | cons q l ih =>
    intro p hp
    have h1 : sumLenI (q :: l) = q.length + sumLenI l := by simp [sumLenI]
    rcases List.mem_cons.1 hp with hp | hp
    · rw [hp]; omega
    · have := ih p hp; omega
end Go.Proofs.YthcfjnedpffbbaaDoor
