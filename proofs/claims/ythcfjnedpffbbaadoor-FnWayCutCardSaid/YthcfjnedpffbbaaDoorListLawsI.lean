/-
  The walks of the exact laws' helpers on lists of slices of bytes: what is proved here is what the copy, the comparisons and the marks return, and what they leave as it was. Condition: lengths up to 2^24.
-/
import Derived.Test.YthcfjnedpffbbaaDoorListI
import Derived.Deep.QuietTactic
import Derived.BigQuiet
namespace Go.Proofs.YthcfjnedpffbbaaDoor
open Go.RowKit

set_option maxHeartbeats 1000000 in
theorem eqIntSS_same {A A' : Option Addr} {n c n' c' : Nat} {zss : List (List Int)} {w : World} (h : HasLI w A n zss) (h' : HasLI w A' n' zss) (hn : n ≤ 16777216) (hb : ∀ zs ∈ zss, zs.length ≤ 16777216) :
    Calls Tryd.prog 41 #[.slice A n c, .slice A' n' c'] w fun e w' => e = .returned (.bool true) ∧ ∃ m, w' = w.drewN m := by
  obtain rfl : n' = n := by have := h.len; have := h'.len; omega
  go_enter Tryd.func41, Tryd.ntmps41
  go_wp2
  go_loopw [5] (fun i wr => ∃ k : Nat, k ≤ n' ∧ i = .int .i64 k ∧ ∃ m, wr = w.drewN m) (fun i _ => n' - (intOf i).toNat)
  case atStart => exact ⟨0, Nat.zero_le _, rfl, 0, rfl⟩
  case round =>
    obtain ⟨k, hk, rfl, m, hw⟩ := hrel
    have HW := Lib.hid hw
    have hl := h.bel (hw ▸ below_drewN w m)
    have hl' := h'.bel (hw ▸ below_drewN w m)
    clear hw
    by_cases hlt : k < n'
    · obtain ⟨b, o, X, q, d, p, rfl, hbl, hp, hc, hqd, hX⟩ := hl.at_ hlt
      obtain ⟨b', o', X', q', d', p', rfl, hbl', hp', hc', hqd', hX'⟩ := hl'.at_ hlt
      obtain rfl : p = p' := by rw [hp] at hp'; injection hp'
      have hq : q ≤ 16777216 := by have q1 := hb p (List.mem_of_getElem? hp); have q2 := hX.len; omega
      have hltB : decide ((k : Int) < (n' : Int)) = true := by simp; omega
      have hk0 : (0 : Int) ≤ (k : Int) := by omega
      have hk1 : (k : Int) < (n' : Int) := by omega
      have CQ : ∀ j, Hid (Calls Tryd.prog 38 #[.slice X q d, .slice X' q' d'] (wr.drewN j) fun e w' => e = .returned (.bool true) ∧ ∃ m', w' = (wr.drewN j).drewN m') := fun j => eqIntS_same (hX.bel (below_drewN wr j)) (hX'.bel (below_drewN wr j)) hq
      have CH := Lib.hid CQ
      clear hp hp' CQ
      go_wp2
      go_quiet (first | (go_at_call 38; exact Calls.quiet_of (CH.out _).out))
      go_wp2
      go_roundw
      case rel => exact ⟨k + 1, by omega, by go_num, m + nq, by rw [HW.out]; exact World.drewN_drewN _ _ _⟩
      case measure => simp [intOf]; omega
    · obtain rfl : k = n' := by omega
      go_wp2
      go_ret
      exact ⟨rfl, m, HW.out⟩
theorem eqIntSS_b {A A' : Option Addr} {n c n' c' : Nat} {zss : List (List Int)} {w : World} (h : HasLI w A n zss) (h' : HasLI w A' n' zss) (hn : n ≤ 16777216) (hb : ∀ zs ∈ zss, zs.length ≤ 16777216) :
    Calls Tryd.prog 41 #[.slice A n c, .slice A' n' c'] w fun e w' => e = .returned (.bool true) ∧ Below w.heap.size w w' :=
  (eqIntSS_same h h' hn hb).mono fun e w' hh => ⟨hh.1, by obtain ⟨_, m, rfl⟩ := hh; exact below_drewN _ _⟩


set_option maxHeartbeats 1000000 in
theorem toIntSS_any {A : Option Addr} {n c : Nat} {zss : List (List Int)} {w : World} (h : HasLI w A n zss) (hn : n ≤ 16777216) (hlen : ∀ zs ∈ zss, zs.length ≤ 16777216) :
    Calls Tryd.prog 40 #[.slice A n c] w fun e w' => ∃ g, e = .returned (.slice (some ⟨g, 0, none⟩) n n) ∧ OwnLI w' w.heap.size (some ⟨g, 0, none⟩) n n zss ∧ Below w.heap.size w w' := by
  obtain ⟨i0, hi, hz0, hz1, hz2⟩ := info_parts Tryd.infoSlI
  have HZ := Lib.hid h.len
  go_enter Tryd.func40, Tryd.ntmps40
  go_wp2_with (refine wpList_make_full _ rfl _ _ 33 rfl w.heap.size 25 i0 (.slice none 0 0) 1 Tryd.underlying33 hi hz0 hz1 .i64 .i64 _ _ n rfl rfl rfl rfl (by rw [hz2]; omega) (by unfold maxLen; omega) (Nat.le_refl _) ?_; intro w1 hown hgrow)
  have hcap : (madeCells (Value.cells (.slice none 0 0)) (n * 1)).toList = List.replicate n (.slice none 0 0) := by
    rw [Nat.mul_one]; exact toList_madeCells_one _ _
  have hown0 : Own w1 w.heap.size 25 (some ⟨w.heap.size, 0, none⟩) n n (List.replicate n (.slice none 0 0)) := by unfold Own; rw [← hcap]; exact hown
  have hL0 := ownLI_made hown0
  have hb0 : Below w.heap.size w w1 := below_of_grown hgrow (Nat.le_refl _) (fun k hk => by cases hk)
  clear hown hgrow hcap hi hz0 hz1 hz2 hown0
  go_loopw [4] (fun i wr => ∃ k : Nat, k ≤ n ∧ i = .int .i64 k ∧ OwnLI wr w.heap.size (some ⟨w.heap.size, 0, none⟩) n n (zss.take k ++ List.replicate (n - k) []) ∧ Below w.heap.size w wr) (fun i _ => n - (intOf i).toNat)
  case atStart => exact ⟨0, Nat.zero_le _, rfl, by simpa using hL0, hb0⟩
  case round =>
    obtain ⟨k, hk, rfl, hown, hb⟩ := hrel
    have hge := hb.size
    by_cases hlt : k < n
    · have hltB : decide ((k : Int) < (n : Int)) = true := by simp; omega
      obtain ⟨b, o, X, q, d, p, rfl, hbl, hp, hc, hqd, hX⟩ := (h.bel hb).at_ hlt
      have hq : q ≤ 16777216 := by have q1 := hlen p (List.mem_of_getElem? hp); have q2 := hX.len; omega
      have HP := Lib.hid hp
      clear hp
      go_wp2_with (fail)
      refine (toIntS_any hX hq).mono ?_
      rintro e w3 ⟨g3, rfl, O3, B3⟩
      have hP := OwnLI.put hown B3 hge O3 hlt
      have h3 := hown.bel B3
      obtain ⟨vs, hv⟩ := h3
      obtain ⟨u, hu, hd, hf⟩ := hv.1.at_ hlt
      have hgs : w.heap.size ≤ w.heap.size := Nat.le_refl _
      clear hu hv
      go_wp2
      go_roundw
      case rel => exact ⟨k + 1, by omega, by go_num, by rw [← set_take zss [] k n HZ.out hlt p HP.out]; exact hP, (hb.trans (B3.mono hge)).setCell (Nat.le_refl _) _⟩
      case measure => simp [intOf]; omega
    · obtain rfl : k = n := by omega
      go_wp2
      go_ret
      rw [Nat.sub_self, List.take_of_length_le (by rw [HZ.out]; omega)] at hown
      exact ⟨_, rfl, by simpa using hown, hb⟩

def sumLenI (zss : List (List Int)) : Nat := (zss.map List.length).sum
theorem sumLenI_snoc (zss : List (List Int)) (k : Nat) (zs : List Int) (h : zss[k]? = some zs) : sumLenI (zss.take (k + 1)) = sumLenI (zss.take k) + zs.length := by
  unfold sumLenI; rw [List.take_add_one, h]; simp
theorem sumLenI_take (zss : List (List Int)) (k : Nat) : sumLenI (zss.take k) ≤ sumLenI zss := by
  have h : zss = zss.take k ++ zss.drop k := (List.take_append_drop k zss).symm
  have h2 : sumLenI zss = sumLenI (zss.take k) + sumLenI (zss.drop k) := by
    conv => lhs; rw [h]
    simp only [sumLenI, List.map_append, List.sum_append]
  omega
def marksLI (K : Nat) : List (List Int) → List (List Int)
  | [] => []
  | zs :: t => marksI K zs.length :: marksLI (K + zs.length) t
theorem marksLI_length (K : Nat) (zss : List (List Int)) : (marksLI K zss).length = zss.length := by
  induction zss generalizing K with
  | nil => rfl
  | cons z t ih => simp [marksLI, ih]
theorem marksLI_at (K : Nat) (zss : List (List Int)) (i : Nat) (zs : List Int) (h : zss[i]? = some zs) : (marksLI K zss)[i]? = some (marksI (K + sumLenI (zss.take i)) zs.length) := by
  induction zss generalizing K i with
  | nil => simp at h
  | cons z t ih =>
    cases i with
    | zero => simp at h; subst h; simp [marksLI, sumLenI]
    | succ i =>
      have := ih (K + z.length) i (by simpa using h)
      simp only [marksLI, List.getElem?_cons_succ, this, List.take_succ_cons]
      simp [sumLenI, Nat.add_assoc]
theorem set_dropLI {α : Type} (xs ys : List α) (k n : Nat) (hx : xs.length = n) (hy : ys.length = n) (hk : k < n) (u : α) (hu : xs[k]? = some u) : (xs.take k ++ ys.drop k).set k u = xs.take (k + 1) ++ ys.drop (k + 1) := set_drop xs ys k n hx hy hk u hu
set_option maxHeartbeats 1000000 in
theorem markIntSS_any {A : Option Addr} {n c lo K : Nat} {vs : List Value} {zss : List (List Int)} {w : World} (h : OwnVI w lo A n c vs zss) (hn : n ≤ 16777216) (hlen : ∀ zs ∈ zss, zs.length ≤ 16777216) (hK : K + sumLenI zss ≤ 1099511627776) :
    Calls Tryd.prog 42 #[.slice A n c, .int .i64 K] w fun e w' => e = .returned (.int .i64 ((K + sumLenI zss : Nat) : Int)) ∧ OwnVI w' lo A n c vs (marksLI K zss) ∧ Touch vs w w' := by
  have HL := Lib.hid h.has.len
  go_enter Tryd.func42, Tryd.ntmps42
  go_wp2
  go_loopw [1, 5] (fun q i wr => ∃ k : Nat, k ≤ n ∧ i = .int .i64 k ∧ q = .int .i64 ((K + sumLenI (zss.take k) : Nat) : Int) ∧ OwnVI wr lo A n c vs ((marksLI K zss).take k ++ zss.drop k) ∧ Touch vs w wr) (fun _ i _ => n - (intOf i).toNat)
  case atStart => exact ⟨0, Nat.zero_le _, rfl, rfl, by simpa using h, Touch.refl _ _⟩
  case round =>
    obtain ⟨k, hk, rfl, rfl, hown, hT⟩ := hrel
    by_cases hlt : k < n
    · have hltB : decide ((k : Int) < (n : Int)) = true := by simp; omega
      obtain ⟨zs, hz⟩ : ∃ zs, zss[k]? = some zs := ⟨_, List.getElem?_eq_getElem (by rw [HL.out]; exact hlt)⟩
      have hlz := hlen zs (List.mem_of_getElem? hz)
      obtain ⟨v, hv⟩ : ∃ v, vs[k]? = some v := ⟨_, List.getElem?_eq_getElem (by have := hown.1.1; omega)⟩
      have hzk : ((marksLI K zss).take k ++ zss.drop k)[k]? = some zs := by
        have ht : ((marksLI K zss).take k).length = k := by rw [List.length_take, marksLI_length, HL.out]; omega
        rw [List.getElem?_append_right (by omega), ht, Nat.sub_self, List.getElem?_drop, Nat.add_zero, hz]
      obtain ⟨X, m, d, rfl, hX⟩ := hown.2.2.1 k v zs hv hzk
      obtain ⟨g, hA, hg0, hg1⟩ := hown.1.head (by omega)
      subst hA
      obtain ⟨u, hu, hd, hf⟩ := hown.1.at_ hlt
      rw [hv] at hu
      obtain rfl : Value.slice X m d = u := by injection hu
      have HS := Lib.hid (sumLenI_snoc zss k zs hz)
      have HM := Lib.hid (marksLI_at K zss k zs hz)
      have HV := Lib.hid hv
      obtain rfl : m = zs.length := hX.has.len.symm
      have hKk : K + sumLenI (zss.take k) + zs.length ≤ 1099511627776 := by
        have h1 := sumLenI_snoc zss k zs hz
        have h2 := sumLenI_take zss (k + 1)
        omega
      have CM := markIntS_any (K := K + sumLenI (zss.take k)) hX hlz (by omega)
      have CH := Lib.hid CM
      clear hu hzk hz hv CM
      generalize hsk : sumLenI (zss.take k) = sk at *
      go_wp2_with (fail)
      refine CH.out.mono ?_
      rintro e w3 ⟨rfl, O3, G3⟩
      have hN := hown.mark HV.out O3 G3
      have hT3 := hT.mark HV.out G3
      go_wp2
      go_roundw
      case rel => exact ⟨k + 1, by omega, by go_num, by rw [HS.out]; go_num, by rw [← set_dropLI (marksLI K zss) zss k n (by rw [marksLI_length, HL.out]) HL.out hlt _ HM.out]; exact hN, hT3⟩
      case measure => simp [intOf]; omega
    · obtain rfl : k = n := by omega
      go_wp2
      go_ret
      rw [List.take_of_length_le (by rw [marksLI_length, HL.out]; omega), List.drop_of_length_le (by rw [HL.out]; omega), List.append_nil] at hown
      refine ⟨ret_int (by rw [List.take_of_length_le (by rw [HL.out]; omega)]), hown, hT⟩

set_option maxHeartbeats 1000000 in
theorem heldIntSS_any {A : Option Addr} {n c K : Nat} {zss : List (List Int)} {w : World} (h : HasLI w A n (marksLI K zss)) (hn : n ≤ 16777216) (hlen : ∀ zs ∈ zss, zs.length ≤ 16777216) (hK : K + sumLenI zss ≤ 1099511627776) :
    Calls Tryd.prog 43 #[.slice A n c, .int .i64 K] w fun e w' => e = .returned (.int .i64 ((K + sumLenI zss : Nat) : Int)) ∧ w = w' := by
  have HL := Lib.hid (show zss.length = n by rw [← marksLI_length K zss]; exact h.len)
  go_enter Tryd.func43, Tryd.ntmps43
  go_wp2
  go_loop [1, 5] (fun q i => ∃ k : Nat, k ≤ n ∧ i = .int .i64 k ∧ q = .int .i64 ((K + sumLenI (zss.take k) : Nat) : Int)) (fun _ i => n - (intOf i).toNat)
  case atStart => exact ⟨0, Nat.zero_le _, rfl, rfl⟩
  case round =>
    obtain ⟨k, hk, rfl, rfl⟩ := hrel
    by_cases hlt : k < n
    · have hltB : decide ((k : Int) < (n : Int)) = true := by simp; omega
      obtain ⟨b, o, X, q, d, p, rfl, hbl, hp, hc, hqd, hX⟩ := h.at_ hlt
      obtain ⟨zs, hz⟩ : ∃ zs, zss[k]? = some zs := ⟨_, List.getElem?_eq_getElem (by rw [HL.out]; exact hlt)⟩
      have hlz := hlen zs (List.mem_of_getElem? hz)
      rw [marksLI_at K zss k zs hz] at hp
      obtain rfl : marksI (K + sumLenI (zss.take k)) zs.length = p := by injection hp
      have HS := Lib.hid (sumLenI_snoc zss k zs hz)
      have hKk : K + sumLenI (zss.take k) + zs.length ≤ 1099511627776 := by
        have h1 := sumLenI_snoc zss k zs hz
        have h2 := sumLenI_take zss (k + 1)
        omega
      obtain rfl : q = zs.length := by have := hX.len; rw [marksI_length] at this; exact this.symm
      have CH := Lib.hid (heldIntS_any (c := d) hX hlz (by omega))
      clear hp hz hX
      generalize hsk : sumLenI (zss.take k) = sk at *
      go_wp2_with (fail)
      refine CH.out.mono ?_
      rintro e w' ⟨rfl, rfl⟩
      go_wp2
      go_round
      case rel => exact ⟨k + 1, by omega, by go_num, by rw [HS.out]; go_num⟩
      case measure => simp [intOf]; omega
    · obtain rfl : k = n := by omega
      have HE := Lib.hid (show sumLenI (zss.take k) = sumLenI zss by rw [List.take_of_length_le (by rw [HL.out]; omega)])
      go_wp2
      go_ret
      exact ⟨ret_int (by rw [HE.out]), rfl⟩
end Go.Proofs.YthcfjnedpffbbaaDoor
