/-
  Chapter 6's plain functions of the model: what is proved here is what they return, and that they write nothing that was there. Condition: lengths up to 2^24.
-/
import Derived.Test.YtmnhgghnaklneaaMathBridge
import Derived.Test.YtmnhgghnaklneaaPar
namespace Go.Proofs.Ytmnhgghnaklneaa
open Go.RowKit

theorem ret_pair {v : Value} {b c : Bool} (h : b = c) : Ending.returned (.tuple #[v, .bool b]) = .returned (.tuple #[v, .bool c]) := by rw [h]

set_option maxHeartbeats 1000000 in
theorem specFreshTable_w (w : World) : Calls Try.prog 36 #[] w fun e w' => ∃ A' c', e = .returned (.slice A' 15 c') ∧ Own w' w.heap.size 3 A' 15 c' (ints .i64 freshL) ∧ Below w.heap.size w w' := by
  obtain ⟨i0, hi, hz0, hz1, hz2⟩ := info_parts Try.infoInt
  go_enter Try.func36, Try.ntmps36
  go_wp2
  go_loopw [1, 2] (fun v t wr => ∃ (k : Nat) (A' : Option Addr) (c' : Nat), k ≤ 15 ∧ t = .int .i64 (k : Int) ∧ v = .slice A' k c' ∧ Own wr w.heap.size 3 A' k c' (ints .i64 (List.replicate k (-1))) ∧ Below w.heap.size w wr) (fun _ t _ => 15 - (intOf t).toNat)
  case atStart => exact ⟨0, _, _, Nat.zero_le _, rfl, rfl, World.ownsRow_lit w #[] 0 (Nat.le_refl _) (by unfold maxLen; omega) rfl, (Below.refl _ _).alloc (Nat.le_refl _) _⟩
  case round =>
    obtain ⟨k, A1, c1, hk, rfl, rfl, O1, B1⟩ := hrel
    have hge := B1.size
    by_cases hlt : k < 15
    · have hltB : decide ((k : Int) < 15) = true := by simp; omega
      go_wp2_with (at_builtin; refine wpList_apps _ rfl (.tmp 8) (.tmp 9) 23 rfl w.heap.size 3 i0 (.int .i64 0) 8 Try.underlying23 hi hz0 hz1 hz2 rfl A1 k c1 _ rfl O1 1 1 #[.int .i64 (-1)] rfl rfl (by simp [Value.oneCell']) (by decide) (by omega) (by decide) (by omega) ?_; intro g3 c3 w3 O3 G3 B3 _)
      go_roundw
      case rel => exact ⟨k + 1, _, _, by omega, by go_num, rfl, by rw [List.replicate_succ', ints_app]; exact O3, B1.trans B3⟩
      case measure => simp [intOf]; omega
    · have hltB : decide ((k : Int) < 15) = false := by simp; omega
      obtain rfl : k = 15 := by omega
      go_wp2
      go_ret
      exact ⟨_, _, rfl, O1, B1⟩

set_option maxHeartbeats 1000000 in
theorem specTableValid_w {A : Option Addr} {n c : Nat} {ts : List Int} {ports : Int} {w : World} (h : Has w A n (ints .i64 ts)) (hn : n ≤ 16777216) :
    Calls Try.prog 34 #[.slice A n c, .int .i64 ports] w fun e w' => e = .returned (.bool (decide (tOk ts ports))) ∧ w = w' := by
  have HL := Lib.hid h.len
  by_cases h15 : n = 15
  · have h15B : ((n : Int) != 15) = false := by simp; omega
    by_cases hp : 1 ≤ ports ∧ ports ≤ 6
    · have C1 := Lib.hid (l1In_yes ports 1 6 w hp.1 hp.2)
      have HP := Lib.hid hp
      obtain ⟨hp1, hp2⟩ := hp
      have h15H := Lib.hid h15
      clear h15
      go_enter Try.func34, Try.ntmps34
      go_wp2_with (go_at_call 57; refine C1.out.mono ?_; rintro e w' ⟨rfl, rfl⟩)
      go_loop [5] (fun i => ∃ k : Nat, k ≤ n ∧ i = .int .i64 k ∧ Hid (∀ f ∈ ts.take k, -1 ≤ f ∧ f ≤ ports - 1)) (fun i => n - (intOf i).toNat)
      case atStart =>
        have : Hid (∀ f ∈ ts.take 0, -1 ≤ f ∧ f ≤ ports - 1) := fun f hf => by simp at hf
        exact ⟨0, Nat.zero_le _, rfl, this⟩
      case round =>
        obtain ⟨k, hk, rfl, HF⟩ := hrel
        by_cases hlt : k < n
        · have hltB : decide ((k : Int) < (n : Int)) = true := by simp; omega
          obtain ⟨b, o, z, rfl, hbl, hx, hc⟩ := h.at_ hlt
          by_cases hz : -1 ≤ z ∧ z ≤ ports - 1
          · have HF2 : Hid (∀ f ∈ ts.take (k + 1), -1 ≤ f ∧ f ≤ ports - 1) := by
              have : ∀ f ∈ ts.take (k + 1), -1 ≤ f ∧ f ≤ ports - 1 := by
                intro f hf
                rw [List.take_add_one, hx] at hf
                rcases List.mem_append.1 hf with hf | hf
                · exact HF.out f hf
                · simp at hf; subst hf; exact hz
              exact this
            have C := Lib.hid (l1In_yes z (-1) (ports - 1) w hz.1 hz.2)
            clear hx hz
            go_wp2_with (go_at_call 57; refine C.out.mono ?_; rintro e w' ⟨rfl, rfl⟩)
            go_round
            case rel => exact ⟨k + 1, by omega, by go_num, HF2⟩
            case measure => simp [intOf]; omega
          · have HB : Hid (¬ tOk ts ports) := fun hg => hz (hg.2.2 z (List.mem_of_getElem? hx))
            have C := Lib.hid (l1In_no z (-1) (ports - 1) w hz)
            clear hx hz
            go_wp2_with (go_at_call 57; refine C.out.mono ?_; rintro e w' ⟨rfl, rfl⟩)
            go_ret
            exact ⟨ret_bool (by rw [decide_eq_false HB.out]), rfl⟩
        · have hltB : decide ((k : Int) < (n : Int)) = false := by simp; omega
          obtain rfl : k = n := by omega
          have HE : Hid (tOk ts ports) := by
            have h1 := HF.out
            have h2 := HL.out
            rw [List.take_of_length_le (by omega)] at h1
            exact (⟨by have := h15H.out; omega, HP.out, h1⟩ : tOk ts ports)
          go_wp2
          go_ret
          exact ⟨ret_bool (by rw [decide_eq_true HE.out]), rfl⟩
    · have C1 := Lib.hid (l1In_no ports 1 6 w hp)
      have HB : Hid (¬ tOk ts ports) := fun hg => hp hg.2.1
      clear hp h15
      go_enter Try.func34, Try.ntmps34
      go_wp2_with (go_at_call 57; refine C1.out.mono ?_; rintro e w' ⟨rfl, rfl⟩)
      go_ret
      exact ⟨ret_bool (by rw [decide_eq_false HB.out]), rfl⟩
  · have h15B : ((n : Int) != 15) = true := by simp; omega
    have HB : Hid (¬ tOk ts ports) := fun hg => h15 (by have := hg.1; have := HL.out; omega)
    clear h15
    go_enter Try.func34, Try.ntmps34
    go_wp2
    go_ret
    exact ⟨ret_bool (by rw [decide_eq_false HB.out]), rfl⟩
theorem specTableValid_b {A : Option Addr} {n c : Nat} {ts : List Int} {ports : Int} {w : World} {b : Bool} (h : Has w A n (ints .i64 ts)) (hn : n ≤ 16777216) (hb : decide (tOk ts ports) = b) :
    Calls Try.prog 34 #[.slice A n c, .int .i64 ports] w fun e w' => e = .returned (.bool b) ∧ w = w' := by rw [← hb]; exact specTableValid_w h hn

theorem l6Learn_any {A : Option Addr} {n c : Nat} {ts : List Int} {port : Int} {w : World} (s : Nat) (h : Has w A n (ints .i64 ts)) (hn : n ≤ 1000) (hs : s < n) :
    Calls Try.prog 58 #[.slice A n c, .int .i64 (s : Int), .int .i64 port] w fun e w' => ∃ A' c', e = .returned (.slice A' n c') ∧ Own w' w.heap.size 3 A' n c' (ints .i64 (ts.set s port)) ∧ Below w.heap.size w w' := by
  obtain ⟨i0, hi, hz0, hz1, hz2⟩ := info_parts Try.infoInt
  have B0 : Below w.heap.size w (w.alloc (.cells #[] 3)) := (Below.refl _ _).alloc (Nat.le_refl _) _
  go_enter Try.func58, Try.ntmps58
  go_wp2_with (at_builtin; refine wpList_app_has _ rfl (.tmp 8) (.tmp 9) 23 rfl w.heap.size 3 i0 (.int .i64 0) 8 Try.underlying23 hi hz0 hz1 hz2 rfl (some ⟨w.heap.size, 0, none⟩) 0 0 [] rfl (World.ownsRow_lit w #[] 0 (Nat.le_refl _) (by unfold maxLen; omega) rfl) A n c (ints .i64 ts) rfl (h.bel B0) (ints_oneCell _ _) (by omega) (by decide) (by simp) ?_; intro A3 c3 w3 O3 G3 B3; rw [Nat.zero_add, List.nil_append] at O3; obtain ⟨g, rfl, hg0, hg1⟩ := O3.head (by omega); obtain ⟨u, hu1, hd1, hf1⟩ := O3.at_ (k := s) hs)
  go_ret
  exact ⟨_, _, rfl, by rw [← ints_set]; exact O3.set_ s _, (B0.trans B3).setCell hg0 _⟩

set_option maxHeartbeats 1000000 in
theorem specLearnPort_w {A : Option Addr} {n c : Nat} {ts : List Int} {ports from_ port : Int} {w : World} (h : Has w A n (ints .i64 ts)) (hn : n ≤ 16777216) :
    Calls Try.prog 18 #[.slice A n c, .int .i64 ports, .int .i64 from_, .int .i64 port] w fun e w' => ∃ A' n' c', e = .returned (.tuple #[.slice A' n' c', .bool (decide (learnOk ts ports from_ port))]) ∧ Own w' w.heap.size 3 A' n' c' (ints .i64 (learnL ts ports from_ port)) ∧ Below w.heap.size w w' := by
  have hlit : Own (w.alloc (.cells #[] 3)) w.heap.size 3 (some ⟨w.heap.size, 0, none⟩) 0 0 (ints .i64 []) := World.ownsRow_lit w #[] 0 (Nat.le_refl _) (by unfold maxLen; omega) rfl
  have B0 : Below w.heap.size w (w.alloc (.cells #[] 3)) := (Below.refl _ _).alloc (Nat.le_refl _) _
  have hl := h.len
  by_cases ht : tOk ts ports
  · have C1 := Lib.hid (specTableValid_b (c := c) (b := true) h hn (decide_eq_true ht))
    have hp := ht.2.1
    have hn15 : n = 15 := by have := ht.1; omega
    by_cases hf : 0 ≤ from_ ∧ from_ ≤ 14
    · obtain ⟨s, rfl⟩ := Int.eq_ofNat_of_zero_le hf.1
      by_cases hq : 0 ≤ port ∧ port ≤ ports - 1
      · have hg : learnOk ts ports (s : Int) port := ⟨ht, hf, hq⟩
        have HD := Lib.hid (decide_eq_true hg)
        have HE := Lib.hid (show learnL ts ports (s : Int) port = ts.set s port by unfold learnL; rw [if_pos hg]; rfl)
        have C2 := Lib.hid (l1In_yes (s : Int) 0 14 w hf.1 hf.2)
        have C3 := Lib.hid (l1In_yes port 0 (ports - 1) w hq.1 hq.2)
        have C4 := Lib.hid (l6Learn_any (c := c) (port := port) s h (by omega) (by omega))
        clear hg ht hf hq hn15
        go_enter Try.func18, Try.ntmps18
        go_wp2_with (fail)
        refine C1.out.mono ?_
        rintro e w' ⟨rfl, rfl⟩
        go_wp2_with (fail)
        refine C2.out.mono ?_
        rintro e w' ⟨rfl, rfl⟩
        go_wp2_with (fail)
        refine C3.out.mono ?_
        rintro e w' ⟨rfl, rfl⟩
        go_wp2_with (fail)
        refine C4.out.mono ?_
        rintro e w1 ⟨A1, c1, rfl, O1, B1⟩
        go_wp2
        go_ret2
        exact ⟨_, _, _, ret_pair HD.out.symm, by rw [HE.out]; exact O1, B1⟩
      · have hg : ¬ learnOk ts ports (s : Int) port := fun hh => hq hh.2.2
        have HD := Lib.hid (decide_eq_false hg)
        have HE := Lib.hid (show learnL ts ports (s : Int) port = [] by unfold learnL; rw [if_neg hg])
        have C2 := Lib.hid (l1In_yes (s : Int) 0 14 w hf.1 hf.2)
        have C3 := Lib.hid (l1In_no port 0 (ports - 1) w hq)
        clear hg ht hf hq hn15
        go_enter Try.func18, Try.ntmps18
        go_wp2_with (fail)
        refine C1.out.mono ?_
        rintro e w' ⟨rfl, rfl⟩
        go_wp2_with (fail)
        refine C2.out.mono ?_
        rintro e w' ⟨rfl, rfl⟩
        go_wp2_with (fail)
        refine C3.out.mono ?_
        rintro e w' ⟨rfl, rfl⟩
        go_wp2
        go_ret2
        exact ⟨_, _, _, ret_pair HD.out.symm, by rw [HE.out]; exact hlit, B0⟩
    · have hg : ¬ learnOk ts ports from_ port := fun hh => hf hh.2.1
      have HD := Lib.hid (decide_eq_false hg)
      have HE := Lib.hid (show learnL ts ports from_ port = [] by unfold learnL; rw [if_neg hg])
      have C2 := Lib.hid (l1In_no from_ 0 14 w hf)
      clear hg ht hf hn15
      go_enter Try.func18, Try.ntmps18
      go_wp2_with (fail)
      refine C1.out.mono ?_
      rintro e w' ⟨rfl, rfl⟩
      go_wp2_with (fail)
      refine C2.out.mono ?_
      rintro e w' ⟨rfl, rfl⟩
      go_wp2
      go_ret2
      exact ⟨_, _, _, ret_pair HD.out.symm, by rw [HE.out]; exact hlit, B0⟩
  · have C1 := Lib.hid (specTableValid_b (c := c) (b := false) h hn (decide_eq_false ht))
    have hg : ¬ learnOk ts ports from_ port := fun hh => ht hh.1
    have HD := Lib.hid (decide_eq_false hg)
    have HE := Lib.hid (show learnL ts ports from_ port = [] by unfold learnL; rw [if_neg hg])
    clear hg ht
    go_enter Try.func18, Try.ntmps18
    go_wp2_with (fail)
    refine C1.out.mono ?_
    rintro e w' ⟨rfl, rfl⟩
    go_wp2
    go_ret2
    exact ⟨_, _, _, ret_pair HD.out.symm, by rw [HE.out]; exact hlit, B0⟩
set_option maxHeartbeats 4000000 in
theorem specPortsFor_w {A : Option Addr} {n c : Nat} {ts : List Int} {ports to port : Int} {w : World} (h : Has w A n (ints .i64 ts)) (hn : n ≤ 16777216) :
    Calls Try.prog 23 #[.slice A n c, .int .i64 ports, .int .i64 to, .int .i64 port] w fun e w' => ∃ A' n' c', e = .returned (.slice A' n' c') ∧ Own w' w.heap.size 3 A' n' c' (ints .i64 (portsL ts ports to port)) ∧ Below w.heap.size w w' := by
  obtain ⟨i0, hi, hz0, hz1, hz2⟩ := info_parts Try.infoInt
  have hlit : Own (w.alloc (.cells #[] 3)) w.heap.size 3 (some ⟨w.heap.size, 0, none⟩) 0 0 (ints .i64 []) := World.ownsRow_lit w #[] 0 (Nat.le_refl _) (by unfold maxLen; omega) rfl
  have B0 : Below w.heap.size w (w.alloc (.cells #[] 3)) := (Below.refl _ _).alloc (Nat.le_refl _) _
  have hl := h.len
  have h0 := h.bel B0
  by_cases ht : tOk ts ports
  · have C1 := Lib.hid (specTableValid_b (c := c) (b := true) h0 hn (decide_eq_true ht))
    have hp := ht.2.1
    have hn15 : n = 15 := by have := ht.1; omega
    by_cases hf : 0 ≤ to ∧ to ≤ 15
    · obtain ⟨s, rfl⟩ := Int.eq_ofNat_of_zero_le hf.1
      have C2 := Lib.hid (l1In_yes (s : Int) 0 15 (w.alloc (.cells #[] 3)) hf.1 hf.2)
      by_cases hq : 0 ≤ port ∧ port ≤ ports - 1
      · have hg : toOk ts ports (s : Int) port := ⟨ht, hf, hq⟩
        obtain ⟨m, rfl⟩ := Int.eq_ofNat_of_zero_le (show 0 ≤ ports by omega)
        have C3 := Lib.hid (l1In_yes port 0 ((m : Int) - 1) (w.alloc (.cells #[] 3)) hq.1 hq.2)
        have HE := Lib.hid (show portsL ts (m : Int) (s : Int) port = portsTo (knownAt ts (s : Int)) port m by unfold portsL; rw [if_pos hg]; rfl)
        have hm : m ≤ 6 := by omega
        have hs15 : s ≤ 15 := by omega
        by_cases hst : s < 15
        · have hsB : decide ((s : Int) < 15) = true := by simp; omega
          obtain ⟨b, o, z, rfl, hbl, hx, hc⟩ := h.at_ (i := s) (by omega)
          have HK := Lib.hid (show knownAt ts (s : Int) = z by unfold knownAt; rw [if_pos (by omega)]; simp [List.getD_eq_getElem?_getD, hx])
          have hbl0 : b < w.heap.size := hbl
          have hsn : s < n := by omega
          have hcA := (B0.cell (p := ⟨b, o + s, none⟩) hbl).trans hc
          clear hg ht hf hq hn15 hx
          go_enter Try.func23, Try.ntmps23
          go_wp2_with (fail)
          refine C1.out.mono ?_
          rintro e w' ⟨rfl, rfl⟩
          go_wp2_with (fail)
          refine C2.out.mono ?_
          rintro e w' ⟨rfl, rfl⟩
          go_wp2_with (fail)
          refine C3.out.mono ?_
          rintro e w' ⟨rfl, rfl⟩
          go_wp2
          go_loopw [9, 11] (fun v t wr => ∃ (k q : Nat) (A' : Option Addr) (c' : Nat), k ≤ m ∧ q ≤ k ∧ t = .int .i64 (k : Int) ∧ v = .slice A' q c' ∧ Own wr w.heap.size 3 A' q c' (ints .i64 (portsTo z port k)) ∧ Below w.heap.size w wr) (fun _ t _ => m - (intOf t).toNat)
          case atStart => exact ⟨0, 0, _, _, by omega, by omega, rfl, rfl, hlit, B0⟩
          case round =>
            obtain ⟨k, q, A1, c1, hk, hq, rfl, rfl, O1, B1⟩ := hrel
            have hge := B1.size
            by_cases hlt : k < m
            · have hltB : decide ((k : Int) < (m : Int)) = true := by simp; omega
              have HS := Lib.hid (portsTo_snoc z port k)
              by_cases hkp : (k : Int) = port
              · have hkB : ((k : Int) != port) = false := by simp [hkp]
                have HS2 := Lib.hid (HS.out.trans (by rw [if_neg (fun hh => hh.1 hkp), List.append_nil]))
                clear hkp
                go_wp2
                go_roundw
                case rel => exact ⟨k + 1, q, _, _, by omega, by omega, by go_num, rfl, by rw [HS2.out]; exact O1, B1⟩
                case measure => simp [intOf]; omega
              · have hkB : ((k : Int) != port) = true := by simp [hkp]
                by_cases hn0 : z < 0
                · have hnB : decide (z < 0) = true := by simp; omega
                  have HS2 := Lib.hid (HS.out.trans (by rw [if_pos ⟨hkp, .inl hn0⟩]))
                  clear hkp hn0
                  go_wp2_with (at_builtin; refine wpList_apps _ rfl (.tmp 53) (.tmp 55) 23 rfl w.heap.size 3 i0 (.int .i64 0) 8 Try.underlying23 hi hz0 hz1 hz2 rfl A1 q c1 _ rfl O1 1 1 #[.int .i64 (k : Int)] rfl rfl (by simp [Value.oneCell']) (by decide) (by omega) (by decide) (by omega) ?_; intro g3 c3 w3 O3 G3 B3 _)
                  go_roundw
                  case rel => exact ⟨k + 1, q + 1, _, _, by omega, by omega, by go_num, rfl, by rw [HS2.out, ints_app]; exact O3, B1.trans B3⟩
                  case measure => simp [intOf]; omega
                · have hnB : decide (z < 0) = false := by simp; omega
                  by_cases hke : z = (k : Int)
                  · have heB : (z == (k : Int)) = true := by simp [hke]
                    have HS2 := Lib.hid (HS.out.trans (by rw [if_pos ⟨hkp, .inr hke⟩]))
                    clear hkp hn0 hke
                    go_wp2_with (at_builtin; refine wpList_apps _ rfl (.tmp 53) (.tmp 55) 23 rfl w.heap.size 3 i0 (.int .i64 0) 8 Try.underlying23 hi hz0 hz1 hz2 rfl A1 q c1 _ rfl O1 1 1 #[.int .i64 (k : Int)] rfl rfl (by simp [Value.oneCell']) (by decide) (by omega) (by decide) (by omega) ?_; intro g3 c3 w3 O3 G3 B3 _)
                    go_roundw
                    case rel => exact ⟨k + 1, q + 1, _, _, by omega, by omega, by go_num, rfl, by rw [HS2.out, ints_app]; exact O3, B1.trans B3⟩
                    case measure => simp [intOf]; omega
                  · have heB : (z == (k : Int)) = false := by simp [hke]
                    have HS2 := Lib.hid (HS.out.trans (by rw [if_neg (fun hh => hh.2.elim hn0 hke), List.append_nil]))
                    clear hkp hn0 hke
                    go_wp2
                    go_roundw
                    case rel => exact ⟨k + 1, q, _, _, by omega, by omega, by go_num, rfl, by rw [HS2.out]; exact O1, B1⟩
                    case measure => simp [intOf]; omega
            · have hltB : decide ((k : Int) < (m : Int)) = false := by simp; omega
              obtain rfl : k = m := by omega
              go_wp2
              go_ret
              exact ⟨_, _, _, rfl, by rw [HE.out, HK.out]; exact O1, B1⟩
        · have hsB : decide ((s : Int) < 15) = false := by simp; omega
          have HK := Lib.hid (show knownAt ts (s : Int) = -1 by unfold knownAt; rw [if_neg (by omega)])
          clear hg ht hf hq hn15
          go_enter Try.func23, Try.ntmps23
          go_wp2_with (fail)
          refine C1.out.mono ?_
          rintro e w' ⟨rfl, rfl⟩
          go_wp2_with (fail)
          refine C2.out.mono ?_
          rintro e w' ⟨rfl, rfl⟩
          go_wp2_with (fail)
          refine C3.out.mono ?_
          rintro e w' ⟨rfl, rfl⟩
          go_wp2
          go_loopw [9, 11] (fun v t wr => ∃ (k q : Nat) (A' : Option Addr) (c' : Nat), k ≤ m ∧ q ≤ k ∧ t = .int .i64 (k : Int) ∧ v = .slice A' q c' ∧ Own wr w.heap.size 3 A' q c' (ints .i64 (portsTo (-1) port k)) ∧ Below w.heap.size w wr) (fun _ t _ => m - (intOf t).toNat)
          case atStart => exact ⟨0, 0, _, _, by omega, by omega, rfl, rfl, hlit, B0⟩
          case round =>
            obtain ⟨k, q, A1, c1, hk, hq, rfl, rfl, O1, B1⟩ := hrel
            have hge := B1.size
            by_cases hlt : k < m
            · have hltB : decide ((k : Int) < (m : Int)) = true := by simp; omega
              have HS := Lib.hid (portsTo_snoc (-1) port k)
              by_cases hkp : (k : Int) = port
              · have hkB : ((k : Int) != port) = false := by simp [hkp]
                have HS2 := Lib.hid (HS.out.trans (by rw [if_neg (fun hh => hh.1 hkp), List.append_nil]))
                clear hkp
                go_wp2
                go_roundw
                case rel => exact ⟨k + 1, q, _, _, by omega, by omega, by go_num, rfl, by rw [HS2.out]; exact O1, B1⟩
                case measure => simp [intOf]; omega
              · have hkB : ((k : Int) != port) = true := by simp [hkp]
                by_cases hn0 : (-1) < 0
                · have hnB : decide ((-1 : Int) < 0) = true := rfl
                  have HS2 := Lib.hid (HS.out.trans (by rw [if_pos ⟨hkp, .inl hn0⟩]))
                  clear hkp hn0
                  go_wp2_with (at_builtin; refine wpList_apps _ rfl (.tmp 53) (.tmp 55) 23 rfl w.heap.size 3 i0 (.int .i64 0) 8 Try.underlying23 hi hz0 hz1 hz2 rfl A1 q c1 _ rfl O1 1 1 #[.int .i64 (k : Int)] rfl rfl (by simp [Value.oneCell']) (by decide) (by omega) (by decide) (by omega) ?_; intro g3 c3 w3 O3 G3 B3 _)
                  go_roundw
                  case rel => exact ⟨k + 1, q + 1, _, _, by omega, by omega, by go_num, rfl, by rw [HS2.out, ints_app]; exact O3, B1.trans B3⟩
                  case measure => simp [intOf]; omega
                · exact absurd (by omega : (-1 : Int) < 0) hn0
            · have hltB : decide ((k : Int) < (m : Int)) = false := by simp; omega
              obtain rfl : k = m := by omega
              go_wp2
              go_ret
              exact ⟨_, _, _, rfl, by rw [HE.out, HK.out]; exact O1, B1⟩
      · have HE := Lib.hid (show portsL ts ports (s : Int) port = [] by unfold portsL; rw [if_neg (fun hh => hq hh.2.2)])
        have C3 := Lib.hid (l1In_no port 0 (ports - 1) (w.alloc (.cells #[] 3)) hq)
        clear ht hf hq hn15
        go_enter Try.func23, Try.ntmps23
        go_wp2_with (fail)
        refine C1.out.mono ?_
        rintro e w' ⟨rfl, rfl⟩
        go_wp2_with (fail)
        refine C2.out.mono ?_
        rintro e w' ⟨rfl, rfl⟩
        go_wp2_with (fail)
        refine C3.out.mono ?_
        rintro e w' ⟨rfl, rfl⟩
        go_wp2
        go_ret
        exact ⟨_, _, _, rfl, by rw [HE.out]; exact hlit, B0⟩
    · have HE := Lib.hid (show portsL ts ports to port = [] by unfold portsL; rw [if_neg (fun hh => hf hh.2.1)])
      have C2 := Lib.hid (l1In_no to 0 15 (w.alloc (.cells #[] 3)) hf)
      clear ht hf hn15
      go_enter Try.func23, Try.ntmps23
      go_wp2_with (fail)
      refine C1.out.mono ?_
      rintro e w' ⟨rfl, rfl⟩
      go_wp2_with (fail)
      refine C2.out.mono ?_
      rintro e w' ⟨rfl, rfl⟩
      go_wp2
      go_ret
      exact ⟨_, _, _, rfl, by rw [HE.out]; exact hlit, B0⟩
  · have C1 := Lib.hid (specTableValid_b (c := c) (b := false) h0 hn (decide_eq_false ht))
    have HE := Lib.hid (show portsL ts ports to port = [] by unfold portsL; rw [if_neg (fun hh => ht hh.1)])
    clear ht
    go_enter Try.func23, Try.ntmps23
    go_wp2_with (fail)
    refine C1.out.mono ?_
    rintro e w' ⟨rfl, rfl⟩
    go_wp2
    go_ret
    exact ⟨_, _, _, rfl, by rw [HE.out]; exact hlit, B0⟩

set_option maxHeartbeats 2000000 in
theorem specKnownStations_w {A : Option Addr} {n c : Nat} {ts : List Int} {ports : Int} {w : World} (h : Has w A n (ints .i64 ts)) (hn : n ≤ 16777216) :
    Calls Try.prog 33 #[.slice A n c, .int .i64 ports] w fun e w' => ∃ A' n' c', e = .returned (.slice A' n' c') ∧ Own w' w.heap.size 3 A' n' c' (ints .i64 (knownL ts ports)) ∧ Below w.heap.size w w' := by
  obtain ⟨i0, hi, hz0, hz1, hz2⟩ := info_parts Try.infoInt
  have hlit : Own (w.alloc (.cells #[] 3)) w.heap.size 3 (some ⟨w.heap.size, 0, none⟩) 0 0 (ints .i64 []) := World.ownsRow_lit w #[] 0 (Nat.le_refl _) (by unfold maxLen; omega) rfl
  have B0 : Below w.heap.size w (w.alloc (.cells #[] 3)) := (Below.refl _ _).alloc (Nat.le_refl _) _
  have hl := h.len
  by_cases ht : tOk ts ports
  · have HE := Lib.hid (show knownL ts ports = knownTo ts 15 by unfold knownL; rw [if_pos ht])
    have CV : ∀ W : World, Below w.heap.size w W → Calls Try.prog 34 #[.slice A n c, .int .i64 ports] W fun e w' => e = .returned (.bool true) ∧ W = w' := fun W hW => specTableValid_b (c := c) (h.bel hW) hn (decide_eq_true ht)
    have CVH := Lib.hid CV
    have hn15 : n = 15 := by have := ht.1; omega
    subst hn15
    clear ht CV
    go_enter Try.func33, Try.ntmps33
    go_wp2
    go_loopw [5, 6] (fun v t wr => ∃ (k q : Nat) (A' : Option Addr) (c' : Nat), k ≤ 15 ∧ q ≤ k ∧ t = .int .i64 (k : Int) ∧ v = .slice A' q c' ∧ Own wr w.heap.size 3 A' q c' (ints .i64 (knownTo ts k)) ∧ Below w.heap.size w wr) (fun _ t _ => 15 - (intOf t).toNat)
    case atStart => exact ⟨0, 0, _, _, by omega, by omega, rfl, rfl, hlit, B0⟩
    case round =>
      obtain ⟨k, q, A1, c1, hk, hq, rfl, rfl, O1, B1⟩ := hrel
      have hge := B1.size
      by_cases hlt : k < 15
      · have hltB : decide ((k : Int) < 15) = true := by simp; omega
        obtain ⟨b, o, z, rfl, hbl, hx, hc⟩ := h.at_ hlt
        have hc1 := (B1.cell (p := ⟨b, o + k, none⟩) hbl).trans hc
        have HS := Lib.hid (knownTo_snoc ts k)
        have HZ : Hid (ts.getD k (-1) = z) := by
          have : ts.getD k (-1) = z := by simp [List.getD_eq_getElem?_getD, hx]
          exact this
        clear hx hc
        by_cases hz : 0 ≤ z
        · have hzB : decide (z ≥ 0) = true := by simp; omega
          have hzC : decide (0 ≤ z) = true := by simp; omega
          have HS2 := Lib.hid (HS.out.trans (by rw [HZ.out, if_pos hz]))
          clear hz
          go_wp2_with (fail)
          refine (CVH.out _ B1).mono ?_
          rintro e w' ⟨rfl, rfl⟩
          go_wp2_with (at_builtin; refine wpList_apps _ rfl (.tmp 24) (.tmp 26) 23 rfl w.heap.size 3 i0 (.int .i64 0) 8 Try.underlying23 hi hz0 hz1 hz2 rfl A1 q c1 _ rfl O1 1 1 #[.int .i64 (k : Int)] rfl rfl (by simp [Value.oneCell']) (by decide) (by omega) (by decide) (by omega) ?_; intro g3 c3 w3 O3 G3 B3 _)
          go_roundw
          case rel => exact ⟨k + 1, q + 1, _, _, by omega, by omega, by go_num, rfl, by rw [HS2.out, ints_app]; exact O3, B1.trans B3⟩
          case measure => simp [intOf]; omega
        · have hzB : decide (z ≥ 0) = false := by simp; omega
          have hzC : decide (0 ≤ z) = false := by simp; omega
          have HS2 := Lib.hid (HS.out.trans (by rw [HZ.out, if_neg hz, List.append_nil]))
          clear hz
          go_wp2_with (fail)
          refine (CVH.out _ B1).mono ?_
          rintro e w' ⟨rfl, rfl⟩
          go_wp2
          go_roundw
          case rel => exact ⟨k + 1, q, _, _, by omega, by omega, by go_num, rfl, by rw [HS2.out]; exact O1, B1⟩
          case measure => simp [intOf]; omega
      · have hltB : decide ((k : Int) < 15) = false := by simp; omega
        obtain rfl : k = 15 := by omega
        go_wp2
        go_ret
        exact ⟨_, _, _, rfl, by rw [HE.out]; exact O1, B1⟩
  · have HE := Lib.hid (show knownL ts ports = [] by unfold knownL; rw [if_neg ht])
    have CV : ∀ W : World, Below w.heap.size w W → Calls Try.prog 34 #[.slice A n c, .int .i64 ports] W fun e w' => e = .returned (.bool false) ∧ W = w' := fun W hW => specTableValid_b (c := c) (h.bel hW) hn (decide_eq_false ht)
    have CVH := Lib.hid CV
    clear ht CV
    go_enter Try.func33, Try.ntmps33
    go_wp2
    go_loopw [5, 6] (fun v t wr => t = .int .i64 0 ∧ v = .slice (some ⟨w.heap.size, 0, none⟩) 0 0 ∧ wr = w.alloc (.cells #[] 3)) (fun _ _ _ => 0)
    case atStart => exact ⟨rfl, rfl, rfl⟩
    case round =>
      obtain ⟨rfl, rfl, rfl⟩ := hrel
      by_cases h0 : 0 < n
      · have h0B : decide ((0 : Int) < (n : Int)) = true := by simp; omega
        go_wp2_with (fail)
        refine (CVH.out _ B0).mono ?_
        rintro e w' ⟨rfl, rfl⟩
        go_wp2
        go_ret
        exact ⟨_, _, _, rfl, by rw [HE.out]; exact hlit, B0⟩
      · have h0B : decide ((0 : Int) < (n : Int)) = false := by simp; omega
        go_wp2
        go_ret
        exact ⟨_, _, _, rfl, by rw [HE.out]; exact hlit, B0⟩
end Go.Proofs.Ytmnhgghnaklneaa
