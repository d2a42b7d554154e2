/-
  Chapter 10's program, networks that two ports share, and ApartFrom: what is proved here is what they return, and that they write nothing that was there. Condition: lengths up to 2^24.
-/
import Derived.Test.YtiokieancjigeaaDoorImp10c
import Derived.Test.YtiokieancjigeaaDoorVlanC
import Derived.Deep.RegionWith
namespace Go.Proofs.YtiokieancjigeaaDoor
open Go.RowKit

theorem or_pow10 {Q S : Nat} (hQ : Q < 10) (hS : S < 1024) (h : S / 2 ^ Q % 2 = 0) : bits .or .u64 (IntKind.u64.wrap (2 ^ Q)) (S : Int) = ((S + 2 ^ Q : Nat) : Int) := by
  have key : ∀ Q : Fin 10, ∀ S : Fin 1024, S.val / 2 ^ Q.val % 2 = 0 → bits .or .u64 (IntKind.u64.wrap (2 ^ Q.val)) (S.val : Int) = ((S.val + 2 ^ Q.val : Nat) : Int) := by decide +kernel
  exact key ⟨Q, hQ⟩ ⟨S, hS⟩ h
theorem add_or10 {Q S : Nat} (hQ : Q < 10) (hS : S < 1024) (h : S / 2 ^ Q % 2 = 0) : S + 2 ^ Q = S ||| 2 ^ Q := by
  have key : ∀ Q : Fin 10, ∀ S : Fin 1024, S.val / 2 ^ Q.val % 2 = 0 → S.val + 2 ^ Q.val = S.val ||| 2 ^ Q.val := by decide +kernel
  exact key ⟨Q, hQ⟩ ⟨S, hS⟩ h
theorem wrap_pow10 {Q : Nat} (hQ : Q < 10) : IntKind.u64.wrap (2 ^ Q) = ((2 ^ Q : Nat) : Int) := by
  have key : ∀ Q : Fin 10, IntKind.u64.wrap (2 ^ Q.val) = ((2 ^ Q.val : Nat) : Int) := by decide +kernel
  exact key ⟨Q, hQ⟩
theorem and_nat {M K : Nat} (hM : M < 18446744073709551616) (hK : K < 18446744073709551616) : bits .and .u64 (M : Int) (K : Int) = ((M &&& K : Nat) : Int) := by
  have h2 : bits .and .u64 (M : Int) (K : Int) = IntKind.u64.wrap ((BitVec.ofInt 64 (M : Int) &&& BitVec.ofInt 64 (K : Int)).toNat : Int) := rfl
  have h3 : ∀ k : Nat, k < 18446744073709551616 → (BitVec.ofInt 64 (k : Int)).toNat = k := fun k hk => by
    rw [BitVec.toNat_ofInt]; simp; omega
  rw [h2, BitVec.toNat_and, h3 M hM, h3 K hK]
  have hle : M &&& K ≤ M := Nat.and_le_left
  have hw : ∀ k : Nat, k < 18446744073709551616 → IntKind.u64.wrap (k : Int) = (k : Int) := fun k hk => by
    simp [IntKind.wrap, IntKind.signed, IntKind.bits]; omega
  exact hw _ (by omega)
theorem no_bit {l : List Int} {Q : Nat} (h : vOk l) (hn : (Q : Int) ∉ l) : vset l / 2 ^ Q % 2 = 0 := by
  have h1 := (vset_bit l Q h)
  have h2 : ¬ (vset l / 2 ^ Q % 2 = 1) := fun hh => hn (h1.1 hh)
  omega
theorem pset_lt {p : Port} (h : pOk p) : pset p < 1024 := by
  obtain ⟨x, q, l⟩ := p
  obtain ⟨Q, hq⟩ := Int.eq_ofNat_of_zero_le (show 0 ≤ q by have := h.2.1; simp at this; omega)
  have hQ : Q < 10 := by have := h.2.1; simp at this; omega
  have hp : 2 ^ Q < 1024 := Nat.pow_lt_pow_right (by omega) hQ
  unfold pset
  subst hq
  simp only [Int.toNat_natCast]
  split
  · have h0 := no_bit h.2.2.2.1 (fun hm => h.2.2.2.2 _ hm rfl)
    have hs := vset_small h.2.2.2.1
    rw [add_or10 hQ hs h0]
    exact Nat.or_lt_two_pow (n := 10) hs hp
  · exact hp
theorem outI_pos {x q v : Int} {l : List Int} (h : pOk (x, q, l)) : 0 ≤ outI (x, q, l) v ↔ v = q ∨ v ∈ l := by
  unfold outI
  rw [if_pos h]
  by_cases h1 : v = q
  · simp [h1]
  · by_cases h2 : v ∈ l
    · have := h.2.2.2.1.1 v h2
      simp [h1, h2]; omega
    · simp [h1, h2]
theorem pset_bit {p : Port} (h : pOk p) (V : Nat) : (pset p).testBit V = decide (0 ≤ outI p (V : Int)) := by
  obtain ⟨x, q, l⟩ := p
  obtain ⟨Q, hq⟩ := Int.eq_ofNat_of_zero_le (show 0 ≤ q by have := h.2.1; simp at this; omega)
  subst hq
  have hQ : Q < 10 := by have := h.2.1; simp at this; omega
  rw [show decide (0 ≤ outI (x, (Q : Int), l) (V : Int)) = decide ((V : Int) = (Q : Int) ∨ (V : Int) ∈ l) from decide_eq_decide.2 (outI_pos h)]
  have hv : vOk l := h.2.2.2.1
  unfold pset
  simp only [Int.toNat_natCast]
  have hb : (vset l).testBit V = decide ((V : Int) ∈ l) := by
    rw [Nat.testBit_eq_decide_div_mod_eq]
    exact decide_eq_decide.2 (vset_bit l V hv)
  split
  · have h0 := no_bit hv (fun hm => h.2.2.2.2 _ hm rfl)
    rw [add_or10 hQ (vset_small hv) h0, Nat.testBit_or, hb, Nat.testBit_two_pow]
    by_cases h1 : (V : Int) ∈ l
    · simp [h1]
    · simp only [h1, decide_false, Bool.false_or, or_false]
      apply decide_eq_decide.2; omega
  · rename_i h2
    have hl : l = [] := h.2.2.1 (by have h1 : 1 ≤ x ∧ x ≤ 2 := h.1; have h2' : ¬ x = 2 := h2; show x = 1; omega)
    subst hl
    rw [Nat.testBit_two_pow]
    simp only [List.not_mem_nil, or_false]
    apply decide_eq_decide.2; omega
theorem shared_zero {p q : Port} (hp : pOk p) (hq : pOk q) : (pset p &&& pset q = 0) ↔ meetTo p q 10 = [] := by
  constructor
  · intro h
    apply List.eq_nil_iff_forall_not_mem.2
    intro x hx
    obtain ⟨h1, h2⟩ := meet_mem10.1 hx
    obtain ⟨V, rfl⟩ := Int.eq_ofNat_of_zero_le (show 0 ≤ x by have := out_range h1; omega)
    have := congrArg (fun n => Nat.testBit n V) h
    simp [Nat.testBit_and, pset_bit hp, pset_bit hq, h1, h2] at this
  · intro h
    apply Nat.eq_of_testBit_eq
    intro V
    rw [Nat.testBit_and, pset_bit hp, pset_bit hq, Nat.zero_testBit]
    by_cases h1 : 0 ≤ outI p (V : Int)
    · by_cases h2 : 0 ≤ outI q (V : Int)
      · have := meet_mem10.2 ⟨h1, h2⟩
        rw [h] at this; cases this
      · simp [h2]
    · simp [h1]
theorem self_meet {p : Port} (hp : pOk p) : meetTo p p 10 ≠ [] := fun h => by
  have : p.2.1 ∈ meetTo p p 10 := meet_mem10.2 ⟨by rw [out_own hp]; omega, by rw [out_own hp]; omega⟩
  rw [h] at this; cases this

theorem ret_u64 {x y : Int} (h : x = y) : Ending.returned (.int .u64 x) = .returned (.int .u64 y) := by rw [h]
theorem plainSet_r {Q : Nat} (w : World) (hQ : Q < 10) : Calls Tryd.prog 70 #[.agg #[.int .i64 (Q : Int)]] w fun e w' => e = .returned (.int .u64 ((2 ^ Q : Nat) : Int)) ∧ Below w.heap.size w w' := by
  have BA := below_allocP w (.cells #[.int .i64 (Q : Int)] 87)
  have hWn := heap_alloc_new w (.cells #[.int .i64 (Q : Int)] 87)
  have c0 := cell1K hWn
  have hW := Lib.hid (wrap_pow10 hQ)
  go_enter Tryd.func70, Tryd.ntmps70
  go_wp2
  go_ret
  exact ⟨ret_u64 hW.out, BA⟩
set_option maxHeartbeats 2000000 in
theorem trunkSet_r {Q : Nat} {l : List Int} (w : World) (hQ : Q < 10) (hv : vOk l) (hn : (Q : Int) ∉ l) : Calls Tryd.prog 73 #[.agg #[.int .i64 (Q : Int), .int .u64 (vset l : Int)]] w fun e w' => e = .returned (.int .u64 ((vset l + 2 ^ Q : Nat) : Int)) ∧ Below w.heap.size w w' := by
  obtain ⟨S, hS⟩ : ∃ S, vset l = S := ⟨_, rfl⟩
  have hO := or_pow10 hQ (vset_small hv) (no_bit hv hn)
  rw [wrap_pow10 hQ] at hO
  rw [hS] at hO ⊢
  obtain ⟨P, hP⟩ : ∃ P, 2 ^ Q = P := ⟨_, rfl⟩
  have HC := Lib.hid (fun W => plainSet_r (Q := Q) W hQ)
  rw [hP] at hO HC ⊢
  obtain ⟨W, hW⟩ : ∃ W, w.alloc (.cells #[.int .i64 (Q : Int), .int .u64 (S : Int)] 89) = W := ⟨_, rfl⟩
  have BA : Below w.heap.size w W := by rw [← hW]; exact below_allocP w _
  have hWn : W.heap[w.heap.size]? = some (.cells #[.int .i64 (Q : Int), .int .u64 (S : Int)] 89 (0, 0)) := by rw [← hW]; exact heap_alloc_new w _
  obtain ⟨c0, c1⟩ := cell2K hWn
  have BD : Below W.heap.size W W.drew := (Below.refl _ _).drew
  obtain ⟨d0, d1⟩ := cell2K (heap_belP BD hWn)
  clear hQ hv hn hS hP
  go_enter Tryd.func73, Tryd.ntmps73
  go_wp2
  go_region_with (go_at_call 70; refine (HC.out _).mono ?_; rintro e w5 ⟨rfl, B5⟩; obtain ⟨f0, f1⟩ := cell2K (heap_belP B5 (heap_belP BD hWn)))
  all_goals
    go_wp2
    go_ret
    exact ⟨ret_u64 (by first | exact hO | omega), bel_trans BA (bel_trans BD B5)⟩
theorem m_plainSet (q : Int) (w : World) : (method 214 87 (.agg #[.int .i64 q]) "loop.example/wholenet/impl.vlans").run Tryd.prog w = .ok (70, .agg #[.int .i64 q]) w := by kernel_rfl
theorem m_trunkSet (q s : Int) (w : World) : (method 214 89 (.agg #[.int .i64 q, .int .u64 s]) "loop.example/wholenet/impl.vlans").run Tryd.prog w = .ok (73, .agg #[.int .i64 q, .int .u64 s]) w := by kernel_rfl
theorem ifc_sets {p : Port} (h : pOk p) :
    (∃ q s : Int, ifc p = .iface 89 (.agg #[.int .i64 q, .int .u64 s]) ∧ (∀ w, (method 214 89 (.agg #[.int .i64 q, .int .u64 s]) "loop.example/wholenet/impl.vlans").run Tryd.prog w = .ok (73, .agg #[.int .i64 q, .int .u64 s]) w) ∧ ∀ W, Calls Tryd.prog 73 #[.agg #[.int .i64 q, .int .u64 s]] W fun e w' => e = .returned (.int .u64 (pset p : Int)) ∧ Below W.heap.size W w') ∨
    (∃ q : Int, ifc p = .iface 87 (.agg #[.int .i64 q]) ∧ (∀ w, (method 214 87 (.agg #[.int .i64 q]) "loop.example/wholenet/impl.vlans").run Tryd.prog w = .ok (70, .agg #[.int .i64 q]) w) ∧ ∀ W, Calls Tryd.prog 70 #[.agg #[.int .i64 q]] W fun e w' => e = .returned (.int .u64 (pset p : Int)) ∧ Below W.heap.size W w') := by
  obtain ⟨x, q, l⟩ := p
  obtain ⟨Q, hq⟩ := Int.eq_ofNat_of_zero_le (show 0 ≤ q by have := h.2.1; simp at this; omega)
  subst hq
  have hQ : Q < 10 := by have := h.2.1; simp at this; omega
  by_cases hx : x = 2
  · refine .inl ⟨_, _, ifc_two hx, m_trunkSet _ _, fun W => ?_⟩
    have e : pset (x, (Q : Int), l) = vset l + 2 ^ Q := by unfold pset; rw [if_pos hx]; simp
    rw [e]
    exact trunkSet_r W hQ h.2.2.2.1 (fun hm => h.2.2.2.2 _ hm rfl)
  · refine .inr ⟨_, ifc_one hx, m_plainSet _, fun W => ?_⟩
    have e : pset (x, (Q : Int), l) = 2 ^ Q := by unfold pset; rw [if_neg hx]; simp
    rw [e]
    exact plainSet_r W hQ

set_option maxRecDepth 100000 in
set_option maxHeartbeats 8000000 in
theorem shared_r {A : Option Addr} {n c : Nat} {ps : List Port} {a b : Nat} {w : World} (h : Has w A n (ps.map ifc)) (hok : psOk ps) (ha : a < n) (hb : b < n) :
    Calls Tryd.prog 26 #[.slice A n c, .int .i64 (a : Int), .int .i64 (b : Int)] w fun e w' => e = .returned (.int .u64 ((pset (dp ps a) &&& pset (dp ps b) : Nat) : Int)) ∧ Below w.heap.size w w' := by
  have hl : ps.length = n := by have := h.1; simpa using this
  obtain ⟨ba, oa, rfl, hca⟩ := h.2 a ha
  obtain ⟨bb, ob, hA, hcb⟩ := h.2 b hb
  injection hA with hA
  injection hA with e1 e2
  subst e1 e2
  have oka := dp_ok hok (show a < ps.length by omega)
  have okb := dp_ok hok (show b < ps.length by omega)
  rw [List.getElem?_map, dp_some (show a < ps.length by omega)] at hca
  rw [List.getElem?_map, dp_some (show b < ps.length by omega)] at hcb
  have hca' : w.cell? ⟨ba, oa + a, none⟩ = some (ifc (dp ps a)) := hca
  have hcb' : w.cell? ⟨ba, oa + b, none⟩ = some (ifc (dp ps b)) := hcb
  have la := pset_lt oka
  have lb := pset_lt okb
  have SA := ifc_sets oka
  have SB := ifc_sets okb
  obtain ⟨M, hM⟩ : ∃ M, pset (dp ps a) = M := ⟨_, rfl⟩
  obtain ⟨K, hK⟩ : ∃ K, pset (dp ps b) = K := ⟨_, rfl⟩
  have hand := and_nat (M := M) (K := K) (by omega) (by omega)
  rw [hM] at SA ⊢
  rw [hK] at SB ⊢
  have ja0 : (0 : Int) ≤ (a : Int) := by omega
  have ja1 : (a : Int) < (n : Int) := by omega
  have jb0 : (0 : Int) ≤ (b : Int) := by omega
  have jb1 : (b : Int) < (n : Int) := by omega
  have hbl : ba < w.heap.size := World.block_lt_of_cell? w ⟨ba, oa + a, none⟩ hca'
  clear hca hcb h hok oka okb la lb hM hK
  obtain ⟨D, hD⟩ : ∃ D, w.drew = D := ⟨_, rfl⟩
  have BD : Below w.heap.size w D := hD ▸ below_drewN w 1
  have da := (BD.cell (p := ⟨ba, oa + a, none⟩) hbl).trans hca'
  have db := (BD.cell (p := ⟨ba, oa + b, none⟩) hbl).trans hcb'
  have hbD : ba < D.heap.size := Nat.lt_of_lt_of_le hbl BD.size
  clear hca' hcb'
  rcases SA with ⟨qa, sa, ea, hMa, hCa⟩ | ⟨qa, ea, hMa, hCa⟩
  all_goals
    rw [ea] at da
    rcases SB with ⟨qb, sb, eb, hMb, hCb⟩ | ⟨qb, eb, hMb, hCb⟩
  all_goals
    rw [eb] at db
    have CA := Lib.hid hCa
    have CB := Lib.hid hCb
    clear ea eb hCa hCb
    go_enter Tryd.func26, Tryd.ntmps26
    go_wp2
    go_region_with (first | ((first | go_at_call 73 | go_at_call 70); (with_reducible refine (CA.out D).mono ?_); rintro e w5 ⟨rfl, B5⟩; have db5 := (B5.cell (p := ⟨ba, oa + b, none⟩) hbD).trans db; have E5 := bel_trans BD B5) | ((first | go_at_call 73 | go_at_call 70); (with_reducible refine (CB.out D).mono ?_); rintro e w5 ⟨rfl, B5⟩; have da5 := (B5.cell (p := ⟨ba, oa + a, none⟩) hbD).trans da; have E5 := bel_trans BD B5) | ((first | go_at_call 73 | go_at_call 70); (with_reducible refine (CA.out w5).mono ?_); rintro e w6 ⟨rfl, B6⟩) | ((first | go_at_call 73 | go_at_call 70); (with_reducible refine (CB.out w5).mono ?_); rintro e w6 ⟨rfl, B6⟩))
  all_goals
    go_wp2
    go_ret
    exact ⟨rfl, bel_trans E5 B6⟩
end Go.Proofs.YtiokieancjigeaaDoor
