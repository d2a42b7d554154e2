/-
  The lowest bit of a word, as math/bits finds it by its table: what is proved here is what TrailingZeros returns for words under 2^10 that are not 0. Condition: the table holds what the program's text lays.
-/
import Derived.Test.YtiokieancjigeaaDoorPar
import Derived.Lib.LaidTab
import Derived.LaidSub
namespace Go.Proofs.YtiokieancjigeaaDoor
open Go.RowKit

def tzTab : List Int := [0, 1, 56, 2, 57, 49, 28, 3, 61, 58, 42, 50, 38, 29, 17, 4, 62, 47, 59, 36, 45, 43, 51, 22, 53, 39, 33, 30, 24, 18, 12, 5, 63, 55, 48, 27, 60, 41, 37, 16, 46, 35, 44, 21, 52, 32, 23, 11, 54, 26, 40, 15, 34, 20, 31, 10, 25, 14, 19, 9, 13, 8, 7, 6]
def TzIn (w : World) : Prop := ∃ t fr, w.heap[1]? = some (.cells (ints .u8 tzTab).toArray t fr)
theorem TzIn.lt {w : World} (h : TzIn w) : 1 < w.heap.size := by obtain ⟨_, _, h⟩ := h; exact (Array.getElem?_eq_some_iff.1 h).1
theorem TzIn.bel {w w' : World} (h : TzIn w) (hb : Below w.heap.size w w') : TzIn w' := by
  have hl := h.lt
  obtain ⟨t, fr, h⟩ := h
  exact ⟨t, fr, (hb.block _ hl).trans h⟩
theorem TzIn.cell {w : World} (h : TzIn w) (i : Nat) : w.cell? ⟨1, i, none⟩ = (ints .u8 tzTab)[i]? := by
  obtain ⟨t, fr, h⟩ := h
  rw [cell_of_row w _ i _ t fr h]; simp
/-- The lowest bit that a word under 2^10 has. -/
def tz (S : Nat) : Nat := ((List.range 10).find? (fun v => S.testBit v)).getD 0
/-- A word without its lowest bit. -/
def lessOne (S : Nat) : Nat := S &&& (S - 1)
def netsL (S : Nat) : List Int := ((List.range 10).filter (fun v => S.testBit v)).map Int.ofNat
theorem nets_step {S : Nat} (h : S < 1024) (h0 : S ≠ 0) : netsL S = (tz S : Int) :: netsL (lessOne S) ∧ lessOne S < S ∧ tz S < 10 := by
  have key : ∀ S : Fin 1024, S.val ≠ 0 → netsL S.val = (tz S.val : Int) :: netsL (lessOne S.val) ∧ lessOne S.val < S.val ∧ tz S.val < 10 := by decide +kernel
  exact key ⟨S, h⟩ h0
theorem less_bits {S : Nat} (h : S < 1024) (h0 : S ≠ 0) : bits .and .u64 (S : Int) (IntKind.u64.wrap ((S : Int) - 1)) = (lessOne S : Int) := by
  have key : ∀ S : Fin 1024, S.val ≠ 0 → bits .and .u64 (S.val : Int) (IntKind.u64.wrap ((S.val : Int) - 1)) = (lessOne S.val : Int) := by decide +kernel
  exact key ⟨S, h⟩ h0
theorem iso_bits {S : Nat} (h : S < 1024) (h0 : S ≠ 0) : bits .and .u64 (S : Int) (IntKind.u64.wrap (-(S : Int))) = ((2 ^ tz S : Nat) : Int) := by
  have key : ∀ S : Fin 1024, S.val ≠ 0 → bits .and .u64 (S.val : Int) (IntKind.u64.wrap (-(S.val : Int))) = ((2 ^ tz S.val : Nat) : Int) := by decide +kernel
  exact key ⟨S, h⟩ h0
def tzKey (q : Nat) : Nat := 2 ^ q * 285870213051353865 % 18446744073709551616 / 288230376151711744
theorem key_lt {q : Nat} (h : q < 10) : tzKey q < 64 := by
  have key : ∀ q : Fin 10, tzKey q.val < 64 := by decide +kernel
  exact key ⟨q, h⟩
theorem mul_wrap {q : Nat} (h : q < 10) : IntKind.u64.wrap (((2 ^ q : Nat) : Int) * 285870213051353865) = ((2 ^ q * 285870213051353865 % 18446744073709551616 : Nat) : Int) := by
  have key : ∀ q : Fin 10, IntKind.u64.wrap (((2 ^ q.val : Nat) : Int) * 285870213051353865) = ((2 ^ q.val * 285870213051353865 % 18446744073709551616 : Nat) : Int) := by decide +kernel
  exact key ⟨q, h⟩
theorem tab_at {q : Nat} (h : q < 10) : (ints .u8 tzTab)[tzKey q]? = some (.int .u8 (q : Int)) := by
  have key : ∀ q : Fin 10, tzTab[tzKey q.val]? = some (q.val : Int) := by decide +kernel
  have := key ⟨q, h⟩
  unfold ints
  rw [List.getElem?_map, this]; rfl
set_option maxRecDepth 100000 in
set_option maxHeartbeats 4000000 in
theorem tz64_any {S : Nat} {w : World} (hT : TzIn w) (h : S < 1024) (h0 : S ≠ 0) : Calls Tryd.prog 50 #[.int .u64 (S : Int)] w fun e w' => e = .returned (.int .i64 (tz S : Int)) ∧ w = w' := by
  have HI := iso_bits h h0
  have q10 := (nets_step h h0).2.2
  have HM := mul_wrap q10
  have HK := key_lt q10
  have hc := (hT.cell (tzKey (tz S))).trans (tab_at q10)
  have sB : ((S : Int) == 0) = false := by simp; omega
  obtain ⟨P, hP⟩ : ∃ P, 2 ^ tz S = P := ⟨_, rfl⟩
  obtain ⟨M, hM⟩ : ∃ M, P * 285870213051353865 % 18446744073709551616 = M := ⟨_, rfl⟩
  rw [hP] at HI HM
  rw [hM] at HM
  have hKM : tzKey (tz S) = M / 288230376151711744 := by unfold tzKey; rw [hP, hM]
  obtain ⟨K, hK⟩ : ∃ K, tzKey (tz S) = K := ⟨_, rfl⟩
  rw [hK] at HK hc hKM
  obtain ⟨q, hq⟩ : ∃ q, tz S = q := ⟨_, rfl⟩
  rw [hq] at hc q10 ⊢
  have HD : (M : Int) / 288230376151711744 = (K : Int) := by omega
  have hsh : Op.shift .shr .u64 (M : Int) .u64 58 = pure (.int .u64 (K : Int)) := (shift_shr .u64 .u64 (M : Int) 58 (by decide) (by decide)).trans (congrArg (fun x => (pure (.int .u64 x) : Sem Value)) HD)
  have K0 : (0 : Int) ≤ (K : Int) := by omega
  have K1 : (K : Int) < 64 := by omega
  clear hK hP hM hq hT HD hKM
  go_enter Tryd.func50, Tryd.ntmps50
  go_wp2
  go_ret
  exact ⟨rfl, rfl⟩
set_option maxHeartbeats 2000000 in
theorem tz_any {S : Nat} {w : World} (hT : TzIn w) (h : S < 1024) (h0 : S ≠ 0) : Calls Tryd.prog 40 #[.int .u64 (S : Int)] w fun e w' => e = .returned (.int .i64 (tz S : Int)) ∧ w = w' := by
  have C := Lib.hid (tz64_any hT h h0)
  clear h h0 hT
  go_enter Tryd.func40, Tryd.ntmps40
  go_wp2_with (go_at_call 50; refine C.out.mono ?_; rintro e w' ⟨rfl, rfl⟩)
  go_ret
  exact ⟨rfl, rfl⟩
/-- The elder table, of which nothing is read here. -/
def tz32 : List Int := [0, 1, 28, 2, 29, 14, 24, 3, 30, 22, 20, 15, 25, 17, 4, 8, 31, 27, 13, 23, 21, 19, 16, 7, 26, 12, 18, 6, 11, 5, 10, 9]
theorem row_of_varT {P : Program} {W : World} {name : String} {g : Nat} {cs : Array Value} (hg : P.globalNamed name = some g) (h : W.var? P name = some cs) : ∃ t fr, W.heap[g]? = some (.cells cs t fr) := by
  unfold World.var? at h
  rw [hg] at h
  simp only [Option.bind_some] at h
  cases hh : W.heap[g]? with
  | none => rw [hh] at h; cases h
  | some o =>
    rw [hh] at h
    cases o with
    | cells c t fr => simp only [Option.some.injEq] at h; subst h; exact ⟨t, fr, rfl⟩
    | _ => cases h
theorem tz_of {W : World} {rest : List (String × DataW Unit)} (h : laidMet Tryd.prog (("math/bits.deBruijn64tab", Lib.tabData .u8 tzTab) :: rest) W) : TzIn W :=
  row_of_varT (cs := (ints .u8 tzTab).toArray) (by kernel_rfl) (Lib.tabIs_of_head (g := 1) (by kernel_rfl) (by kernel_rfl) Tryd.underlying96 Tryd.underlying5 (by kernel_rfl) (by kernel_rfl) h)
end Go.Proofs.YtiokieancjigeaaDoor
