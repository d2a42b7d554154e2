/-
  The wire of the model, and the fates behind the first ones: what is proved here is what arrives, and that nothing that was there is written. Condition: lengths up to 2^24.
-/
import Derived.Test.YtafplpechpoliaaFates
import Derived.Test.YtafplpechpoliaaList
namespace Go.Proofs.Ytafplpechpoliaa
open Go.RowKit

def listOk (l : List (List Int)) : Prop := (∀ p ∈ l, p.length ≤ 600) ∧ l.length ≤ 60
instance (l : List (List Int)) : Decidable (listOk l) := by unfold listOk; infer_instance
/-- What arrives of the message i. -/
def gotN (fs : List Int) (l : List (List Int)) (i : Nat) : List Int := if fateN fs i = 4 ∧ 0 < (l.getD i []).length then flipBit (l.getD i []) 0 else l.getD i []
def gotOf (fs : List Int) (l : List (List Int)) (es : List Int) : List (List Int) := es.map (fun x => gotN fs l x.toNat)
def passL (fs : List Int) (l : List (List Int)) : List (List Int) := if listOk l then gotOf fs l (arrI fs (l.length : Int)) else []
theorem gotOf_snoc (fs : List Int) (l : List (List Int)) (es : List Int) (k : Nat) (x : Int) (h : es[k]? = some x) : gotOf fs l (es.take (k + 1)) = gotOf fs l (es.take k) ++ [gotN fs l x.toNat] := by
  unfold gotOf; rw [List.take_add_one, h]; simp
theorem gotN_at (fs : List Int) (l : List (List Int)) (i : Nat) (p : List Int) (h : l[i]? = some p) : gotN fs l i = if fateN fs i = 4 ∧ 0 < p.length then flipBit p 0 else p := by
  unfold gotN; rw [show l.getD i [] = p by simp [List.getD_eq_getElem?_getD, h]]
theorem gotN_len (fs : List Int) (l : List (List Int)) (i : Nat) (h : listOk l) : (gotN fs l i).length ≤ 600 := by
  unfold gotN
  split
  · exact flipBit_le _ _
  · by_cases hi : i < l.length
    · rw [List.getD_eq_getElem?_getD, List.getElem?_eq_getElem hi]; exact h.1 _ (List.getElem_mem hi)
    · rw [List.getD_eq_getElem?_getD, List.getElem?_eq_none (by omega)]; simp
theorem passL_lens (fs : List Int) (l : List (List Int)) : (passL fs l).length ≤ 120 ∧ (∀ p ∈ passL fs l, p.length ≤ 600) := by
  unfold passL
  split
  · rename_i h
    refine ⟨by unfold gotOf; rw [List.length_map]; exact arrI_120 _ _, fun p hp => ?_⟩
    unfold gotOf at hp
    rw [List.mem_map] at hp
    obtain ⟨x, _, rfl⟩ := hp
    exact gotN_len _ _ _ h
  · exact ⟨by simp, fun p hp => by cases hp⟩
theorem flip0_of {p : List Int} {z : Int} (h6 : p.length ≤ 600) (h0 : 0 < p.length) (hz : p[0]? = some z) : flipBit p 0 = p.set 0 (xor8 z 128) := by
  unfold flipBit
  rw [if_pos (by unfold flipGood; omega)]
  simp [List.getD_eq_getElem?_getD, hz]

theorem l1Flip_0 {A : Option Addr} {n c : Nat} {zs : List Int} {w : World} (h : Has w A n (ints .u8 zs)) (hu : U8s zs) (hn : n ≤ 600) (hi : 0 < n) :
    Calls Try.prog 65 #[.slice A n c, .int .i64 0] w fun e w' => ∃ A' c', e = .returned (.slice A' n c') ∧ Own w' w.heap.size 5 A' n c' (ints .u8 (flipBit zs 0)) ∧ Below w.heap.size w w' := by
  have hl := h.len
  refine (l1Flip_any (c := c) (i := 0) h hu (by omega) (by omega)).mono ?_
  rintro e w' ⟨A', c', z, rfl, hz, O, B⟩
  exact ⟨A', c', rfl, by rw [flip0_of (by omega) (by omega) hz]; exact O, B⟩

set_option maxHeartbeats 1000000 in
theorem l4List_any {A : Option Addr} {n c : Nat} {l : List (List Int)} {w : World} (h : HasL w A n l) (hn : n ≤ 16777216) (hlen : ∀ p ∈ l, p.length ≤ 16777216) :
    Calls Try.prog 64 #[.slice A n c] w fun e w' => e = .returned (.bool (decide (listOk l))) ∧ w = w' := by
  have HL := Lib.hid h.len
  have HG := Lib.hid hlen
  clear hlen
  go_enter Try.func64, Try.ntmps64
  go_wp2
  go_loop [3] (fun i => ∃ k : Nat, k ≤ n ∧ i = .int .i64 k ∧ Hid (∀ p ∈ l.take k, p.length ≤ 600)) (fun i => n - (intOf i).toNat)
  case atStart =>
    have : Hid (∀ p ∈ l.take 0, p.length ≤ 600) := fun f hf => by simp at hf
    exact ⟨0, Nat.zero_le _, rfl, this⟩
  case round =>
    obtain ⟨k, hk, rfl, HF⟩ := hrel
    by_cases hlt : k < n
    · have hltB : decide ((k : Int) < (n : Int)) = true := by simp; omega
      obtain ⟨b, o, X, q, d, p, rfl, hbl, hp, hc, hqd, hX⟩ := h.at_ hlt
      have hq := hX.len
      have hq2 := HG.out p (List.mem_of_getElem? hp)
      by_cases hz : q ≤ 600
      · have HF2 : Hid (∀ p ∈ l.take (k + 1), p.length ≤ 600) := by
          have : ∀ p ∈ l.take (k + 1), p.length ≤ 600 := by
            intro f hf
            rw [List.take_add_one, hp] at hf
            rcases List.mem_append.1 hf with hf | hf
            · exact HF.out f hf
            · simp at hf; subst hf; omega
          exact this
        have hzB : decide (q ≤ 600) = true := by simp [hz]
        clear hp
        go_wp2_with (go_at_call 80; refine (l1Data_any _ _ _ _ (by omega)).mono ?_; rintro e w' ⟨rfl, rfl⟩)
        go_round
        case rel => exact ⟨k + 1, by omega, by go_num, HF2⟩
        case measure => simp [intOf]; omega
      · have HB : Hid (¬ listOk l) := fun hg => hz (by have := hg.1 p (List.mem_of_getElem? hp); omega)
        have hzB : decide (q ≤ 600) = false := by simp [hz]
        clear hp hz
        go_wp2_with (go_at_call 80; refine (l1Data_any _ _ _ _ (by omega)).mono ?_; rintro e w' ⟨rfl, rfl⟩)
        go_ret
        exact ⟨ret_bool (by rw [decide_eq_false HB.out]), rfl⟩
    · have hltB : decide ((k : Int) < (n : Int)) = false := by simp; omega
      obtain rfl : k = n := by omega
      have HE : Hid (listOk l ↔ k ≤ 60) := by
        have h1 := HF.out
        have h2 := HL.out
        rw [List.take_of_length_le (by omega)] at h1
        exact (⟨fun hg => by have := hg.2; omega, fun hg => ⟨h1, by omega⟩⟩ : listOk l ↔ k ≤ 60)
      go_wp2
      go_ret
      exact ⟨ret_bool (by rw [decide_eq_decide, HE.out]; omega), rfl⟩

set_option maxHeartbeats 4000000 in
theorem specPassWire_w {A B : Option Addr} {n c m d : Nat} {fs : List Int} {l : List (List Int)} {w : World} (h : Has w A n (ints .i64 fs)) (hn : n ≤ 16777216) (hL : HasL w B m l) (hu : ∀ p ∈ l, U8s p) (hm : m ≤ 16777216) (hlen : ∀ p ∈ l, p.length ≤ 16777216) :
    Calls Try.prog 26 #[.slice A n c, .slice B m d] w fun e w' => ∃ A' n' c', e = .returned (.slice A' n' c') ∧ OwnL w' w.heap.size A' n' c' (passL fs l) ∧ Below w.heap.size w w' := by
  obtain ⟨i0, hi, hz0, hz1, hz2⟩ := info_parts Try.infoU8
  obtain ⟨j0, hj, hy0, hy1, hy2⟩ := info_parts Try.infoSl
  have HLN := Lib.hid hL.len
  have B0 : Below w.heap.size w (w.alloc (.cells #[] 22)) := (Below.refl _ _).alloc (Nat.le_refl _) _
  have O0 := ownL_lit w w.heap.size (Nat.le_refl _)
  have C4 := l4List_any (c := d) (hL.bel B0) hm hlen
  by_cases hg : listOk l
  · rw [decide_eq_true hg] at C4
    have C4H := Lib.hid C4
    have hm6 : m ≤ 60 := by have := hg.2; have := HLN.out; omega
    have HU := Lib.hid hu
    have HG6 := Lib.hid hg.1
    have CA := specArrivalsOf_w (c := c) (i := (m : Int)) (h.bel B0) hn (by omega)
    have hb : ∀ x ∈ arrI fs (m : Int), 0 ≤ x ∧ x < (m : Int) := fun x hx => by have := arrI_b hx; omega
    have HBX := Lib.hid hb
    have HP := Lib.hid (show passL fs l = gotOf fs l (arrI fs (m : Int)) by unfold passL; rw [if_pos hg, HLN.out])
    have h15 := arrI_le fs (m : Int)
    generalize arrI fs (m : Int) = es at *
    have CAH := Lib.hid CA
    clear C4 CA hb hg hu hlen
    go_enter Try.func26, Try.ntmps26
    go_wp2_with (go_at_call 64; refine C4H.out.mono ?_; rintro e w' ⟨rfl, rfl⟩)
    refine CAH.out.mono ?_
    rintro e w1 ⟨A1, n1, c1, rfl, O1, B1⟩
    have hn1 : n1 ≤ 14760 := by have := O1.has.len; omega
    have HN1 := Lib.hid O1.has.len
    have O01 := O0.bel B1
    have s1 : w.heap.size ≤ w1.heap.size := by have := B1.size; simp at this; omega
    have C1 : Below w.heap.size w w1 := B0.trans (B1.mono (by simp))
    have hSZ : (w.alloc (.cells #[] 22)).heap.size = w.heap.size + 1 := by simp
    rw [hSZ] at O1
    have s1' : w.heap.size + 1 ≤ w1.heap.size := by have := B1.size; simp at this; omega
    have AW0 : Away (some ⟨w.heap.size, 0, none⟩) (w.heap.size + 1) w1.heap.size := fun b hb => by injection hb with hb; have hb' : w.heap.size = b := hb; omega
    clear B1 O0 hSZ h15
    go_wp2
    obtain ⟨wo, rfl⟩ : ∃ wo : World, wo = w1 := ⟨_, rfl⟩
    go_loopw [5, 7] (fun v i wr => ∃ k A' q c', k ≤ n1 ∧ q ≤ k ∧ i = .int .i64 ((k : Nat) : Int) ∧ v = .slice A' q c' ∧ OwnL wr w.heap.size A' q c' (gotOf fs l (es.take k)) ∧ Below w.heap.size w wr ∧ Mid (w.heap.size + 1) wo.heap.size wo wr ∧ Away A' (w.heap.size + 1) wo.heap.size ∧ wo.heap.size ≤ wr.heap.size) (fun _ i _ => n1 - (intOf i).toNat)
    case atStart => exact ⟨0, _, 0, _, by omega, by omega, rfl, rfl, O01, C1, Mid.refl _ _ _, AW0, Nat.le_refl _⟩
    case round =>
      obtain ⟨k, A2, q, c2, hk, hq, rfl, rfl, O2, B2, D2, AW, sd⟩ := hrel
      have hge := B2.size
      have H1 : Has wr A1 n1 (ints .i64 es) := O1.has.stay (fun a ha => by subst ha; exact D2 _ O1.block.1 O1.block.2)
      by_cases hlt : k < n1
      · have hltB : decide ((k : Int) < (n1 : Int)) = true := by simp; omega
        obtain ⟨b1, o1, x, rfl, hbl1, hx1, hc1⟩ := H1.at_ hlt
        have hxb := HBX.out x (List.mem_of_getElem? hx1)
        obtain ⟨j, rfl⟩ := Int.eq_ofNat_of_zero_le hxb.1
        have hjm : j < m := by omega
        have HS : Hid (gotOf fs l (es.take (k + 1)) = gotOf fs l (es.take k) ++ [gotN fs l j]) := gotOf_snoc fs l es k _ hx1
        obtain ⟨b, o, X, t, d2, p, rfl, hbl, hp, hc, hqd, hX⟩ := (hL.bel B2).at_ hjm
        have hup := HU.out p (List.mem_of_getElem? hp)
        have ht6 : t ≤ 600 := by have q1 := HG6.out p (List.mem_of_getElem? hp); have q2 := hX.len; omega
        have HGN : Hid (gotN fs l j = if fateN fs j = 4 ∧ 0 < t then flipBit p 0 else p) := by
          have h1 := gotN_at fs l j p hp
          rw [hX.len] at h1
          exact h1
        have hFB : ∀ W : World, Below w.heap.size w W → Calls Try.prog 59 #[.slice A n c, .int .i64 (j : Int)] W fun e w' => e = .returned (.int .i64 (fateN fs j)) ∧ W = w' := fun W hW => l4Fate_any (c := c) j (h.bel hW) hn
        have HF := Lib.hid hFB
        have hj0 : (0 : Int) ≤ (j : Int) := by omega
        have hj1 : (j : Int) < (m : Int) := by omega
        clear hx1 hp hFB hxb
        generalize hfa : fateN fs j = f at *
        clear hfa
        by_cases hf : f = 4
        · have hfB : (f == 4) = true := by simp [hf]
          by_cases ht0 : 0 < t
          · have htB : decide ((0 : Int) < (t : Int)) = true := by simp; omega
            have HGN2 := Lib.hid (HGN.out.trans (if_pos ⟨hf, ht0⟩))
            clear hf
            go_wp2_with (first | (at_builtin; refine wpList_app_has _ rfl (.tmp 24) (.tmp 31) 22 rfl wr.heap.size 5 i0 (.int .u8 0) 1 Try.underlying22 hi hz0 hz1 hz2 rfl (some ⟨wr.heap.size, 0, none⟩) 0 0 [] rfl (World.ownsRow_lit wr #[] 0 (Nat.le_refl _) (by unfold maxLen; omega) rfl) X t d2 (ints .u8 p) rfl (hX.bel ((Below.refl _ _).alloc (Nat.le_refl _) _)) (ints_oneCell _ _) (by omega) (by decide) (by simp) ?_; intro A3 c3 w3 O3 G3 B3; rw [Nat.zero_add, List.nil_append] at O3; have B3' : Below wr.heap.size wr w3 := ((Below.refl wr.heap.size wr).alloc (Nat.le_refl _) _).trans B3; have hcc := (B3'.cell (p := ⟨b1, o1 + k, none⟩) hbl1).trans hc1) | (go_at_call 59; refine (HF.out _ (B2.trans (B3'.mono hge))).mono ?_; rintro e w' ⟨rfl, rfl⟩) | (go_at_call 65; refine (l1Flip_0 O3.has hup ht6 ht0).mono ?_; rintro e w5 ⟨A5, c5, rfl, O5, B5⟩; have B5' := B3'.trans (B5.mono B3'.size); have D5 := D2.bel B5' sd; obtain ⟨vs, Ov, HV⟩ := O2.snoc B5' hge (O5.mono B3'.size); have s5 := B5'.size) | (at_builtin; refine wpList_apps _ rfl (.tmp 47) (.tmp 49) 31 rfl w.heap.size 22 j0 (.slice none 0 0) 24 Try.underlying31 hj hy0 hy1 hy2 rfl A2 q c2 vs rfl Ov 1 1 #[.slice A5 t c5] rfl rfl (by simp [Value.oneCell']) (by decide) (by omega) (by decide) (by omega) ?_; intro g4 c4 w4 O4 G4 B4 hat4))
            go_roundw
            case rel => exact ⟨k + 1, _, q + 1, _, by omega, by omega, by go_num, rfl, by rw [HS.out, HGN2.out]; exact HV g4 c4 w4 O4 G4 hat4, (B2.trans (B5'.mono hge)).trans B4, D5.grown G4 (by omega) AW, away_next AW (by omega) hat4, by have := World.grownBy.size G4; omega⟩
            case measure => simp [intOf]; omega
          · have htB : decide ((0 : Int) < (t : Int)) = false := by simp; omega
            have HGN2 := Lib.hid (HGN.out.trans (if_neg (fun hh => ht0 hh.2)))
            clear hf
            go_wp2_with (first | (at_builtin; refine wpList_app_has _ rfl (.tmp 24) (.tmp 31) 22 rfl wr.heap.size 5 i0 (.int .u8 0) 1 Try.underlying22 hi hz0 hz1 hz2 rfl (some ⟨wr.heap.size, 0, none⟩) 0 0 [] rfl (World.ownsRow_lit wr #[] 0 (Nat.le_refl _) (by unfold maxLen; omega) rfl) X t d2 (ints .u8 p) rfl (hX.bel ((Below.refl _ _).alloc (Nat.le_refl _) _)) (ints_oneCell _ _) (by omega) (by decide) (by simp) ?_; intro A3 c3 w3 O3 G3 B3; rw [Nat.zero_add, List.nil_append] at O3; have B3' : Below wr.heap.size wr w3 := ((Below.refl wr.heap.size wr).alloc (Nat.le_refl _) _).trans B3; have hcc := (B3'.cell (p := ⟨b1, o1 + k, none⟩) hbl1).trans hc1; have D5 := D2.bel B3' sd; obtain ⟨vs, Ov, HV⟩ := O2.snoc B3' hge O3; have s5 := B3'.size) | (go_at_call 59; refine (HF.out _ (B2.trans (B3'.mono hge))).mono ?_; rintro e w' ⟨rfl, rfl⟩) | (at_builtin; refine wpList_apps _ rfl (.tmp 47) (.tmp 49) 31 rfl w.heap.size 22 j0 (.slice none 0 0) 24 Try.underlying31 hj hy0 hy1 hy2 rfl A2 q c2 vs rfl Ov 1 1 #[.slice A3 t c3] rfl rfl (by simp [Value.oneCell']) (by decide) (by omega) (by decide) (by omega) ?_; intro g4 c4 w4 O4 G4 B4 hat4))
            go_roundw
            case rel => exact ⟨k + 1, _, q + 1, _, by omega, by omega, by go_num, rfl, by rw [HS.out, HGN2.out]; exact HV g4 c4 w4 O4 G4 hat4, (B2.trans (B3'.mono hge)).trans B4, D5.grown G4 (by omega) AW, away_next AW (by omega) hat4, by have := World.grownBy.size G4; omega⟩
            case measure => simp [intOf]; omega
        · have hfB : (f == 4) = false := by simp [hf]
          have HGN2 := Lib.hid (HGN.out.trans (if_neg (fun hh => hf hh.1)))
          clear hf
          go_wp2_with (first | (at_builtin; refine wpList_app_has _ rfl (.tmp 24) (.tmp 31) 22 rfl wr.heap.size 5 i0 (.int .u8 0) 1 Try.underlying22 hi hz0 hz1 hz2 rfl (some ⟨wr.heap.size, 0, none⟩) 0 0 [] rfl (World.ownsRow_lit wr #[] 0 (Nat.le_refl _) (by unfold maxLen; omega) rfl) X t d2 (ints .u8 p) rfl (hX.bel ((Below.refl _ _).alloc (Nat.le_refl _) _)) (ints_oneCell _ _) (by omega) (by decide) (by simp) ?_; intro A3 c3 w3 O3 G3 B3; rw [Nat.zero_add, List.nil_append] at O3; have B3' : Below wr.heap.size wr w3 := ((Below.refl wr.heap.size wr).alloc (Nat.le_refl _) _).trans B3; have hcc := (B3'.cell (p := ⟨b1, o1 + k, none⟩) hbl1).trans hc1; have D5 := D2.bel B3' sd; obtain ⟨vs, Ov, HV⟩ := O2.snoc B3' hge O3; have s5 := B3'.size) | (go_at_call 59; refine (HF.out _ (B2.trans (B3'.mono hge))).mono ?_; rintro e w' ⟨rfl, rfl⟩) | (at_builtin; refine wpList_apps _ rfl (.tmp 47) (.tmp 49) 31 rfl w.heap.size 22 j0 (.slice none 0 0) 24 Try.underlying31 hj hy0 hy1 hy2 rfl A2 q c2 vs rfl Ov 1 1 #[.slice A3 t c3] rfl rfl (by simp [Value.oneCell']) (by decide) (by omega) (by decide) (by omega) ?_; intro g4 c4 w4 O4 G4 B4 hat4))
          go_roundw
          case rel => exact ⟨k + 1, _, q + 1, _, by omega, by omega, by go_num, rfl, by rw [HS.out, HGN2.out]; exact HV g4 c4 w4 O4 G4 hat4, (B2.trans (B3'.mono hge)).trans B4, D5.grown G4 (by omega) AW, away_next AW (by omega) hat4, by have := World.grownBy.size G4; omega⟩
          case measure => simp [intOf]; omega
      · have hltB : decide ((k : Int) < (n1 : Int)) = false := by simp; omega
        obtain rfl : k = n1 := by omega
        go_wp2
        go_ret
        rw [List.take_of_length_le (by have := HN1.out; omega), ← HP.out] at O2
        exact ⟨_, _, _, rfl, O2, B2⟩
  · rw [decide_eq_false hg] at C4
    have C4H := Lib.hid C4
    have HP := Lib.hid (show passL fs l = [] by unfold passL; rw [if_neg hg])
    clear C4 hg hlen hu
    go_enter Try.func26, Try.ntmps26
    go_wp2_with (go_at_call 64; refine C4H.out.mono ?_; rintro e w' ⟨rfl, rfl⟩)
    go_ret
    exact ⟨_, _, _, rfl, by rw [HP.out]; exact O0, B0⟩

set_option maxHeartbeats 1000000 in
theorem l4Behind_any {A : Option Addr} {n c : Nat} {fs : List Int} {w : World} (k : Nat) (h : Has w A n (ints .i64 fs)) (hn : n ≤ 16777216) (hnc : n ≤ c) :
    Calls Try.prog 69 #[.slice A n c, .int .i64 (k : Int)] w fun e w' => ∃ A' n' c', e = .returned (.slice A' n' c') ∧ Own w' w.heap.size 3 A' n' c' (ints .i64 (fs.drop k)) ∧ Below w.heap.size w w' := by
  obtain ⟨i0, hi, hz0, hz1, hz2⟩ := info_parts Try.infoInt
  have B0 : Below w.heap.size w (w.alloc (.cells #[] 3)) := (Below.refl _ _).alloc (Nat.le_refl _) _
  have hl := h.len
  obtain ⟨j, hj, hmin, hdr⟩ : ∃ j, j ≤ n ∧ min (k : Int) (n : Int) = (j : Int) ∧ fs.drop k = fs.drop j := by
    by_cases hk : k ≤ n
    · exact ⟨k, hk, by omega, rfl⟩
    · exact ⟨n, Nat.le_refl _, by omega, by rw [List.drop_of_length_le (by omega), List.drop_of_length_le (by omega)]⟩
  obtain ⟨B, cB, HT, HB⟩ := run_tail (P := Try.prog) (t := 23) (e := 3) (c := c) (l := j) (z := (j : Int)) Try.underlying23 (fun _ => by kernel_rfl) (h.bel B0) hnc hj rfl
  rw [show (ints .i64 fs).drop j = ints .i64 (fs.drop j) by simp [ints, List.map_drop]] at HB
  have HD := Lib.hid hdr
  clear hdr
  go_enter Try.func69, Try.ntmps69
  go_wp2_with (at_builtin; refine wpList_app_has _ rfl (.tmp 5) (.tmp 11) 23 rfl w.heap.size 3 i0 (.int .i64 0) 8 Try.underlying23 hi hz0 hz1 hz2 rfl (some ⟨w.heap.size, 0, none⟩) 0 0 [] rfl (World.ownsRow_lit w #[] 0 (Nat.le_refl _) (by unfold maxLen; omega) rfl) B (n - j) cB (ints .i64 (fs.drop j)) rfl HB (ints_oneCell _ _) (by omega) (by decide) (by simp) ?_; intro A3 c3 w3 O3 G3 B3; rw [Nat.zero_add, List.nil_append] at O3)
  go_ret
  exact ⟨_, _, _, rfl, by rw [HD.out]; exact O3, B0.trans B3⟩

set_option maxHeartbeats 1000000 in
theorem specFatesBehind_w {A : Option Addr} {n c : Nat} {fs : List Int} {i : Int} {w : World} (h : Has w A n (ints .i64 fs)) (hn : n ≤ 16777216) (hi : -9223372036854775808 ≤ i ∧ i ≤ 9223372036854775807) (hnc : n ≤ c) :
    Calls Try.prog 36 #[.slice A n c, .int .i64 i] w fun e w' => ∃ A' n' c', e = .returned (.slice A' n' c') ∧ Own w' w.heap.size 3 A' n' c' (ints .i64 (behI fs i)) ∧ Below w.heap.size w w' := by
  by_cases hg : fOk fs
  · have C := Lib.hid ((specFatesValid_w (c := c) h hn).mono fun e w' (hh : e = .returned (.bool (decide (fOk fs))) ∧ w = w') => (⟨by rw [hh.1, decide_eq_true hg], hh.2⟩ : e = .returned (.bool true) ∧ w = w'))
    by_cases h0 : 0 ≤ i
    · obtain ⟨k, rfl⟩ := Int.eq_ofNat_of_zero_le h0
      have h0B : decide ((k : Int) < 0) = false := by simp
      have HE := Lib.hid (show behI fs (k : Int) = fs.drop k by unfold behI; rw [if_pos ⟨hg, h0⟩]; rfl)
      have C2 := Lib.hid (l4Behind_any (c := c) k h hn hnc)
      clear h0 hg
      go_enter Try.func36, Try.ntmps36
      go_wp2_with (go_at_call 21; refine C.out.mono ?_; rintro e w' ⟨rfl, rfl⟩)
      refine C2.out.mono ?_
      rintro e w1 ⟨A1, n1, c1, rfl, O1, B1⟩
      go_wp2
      go_ret
      exact ⟨_, _, _, rfl, by rw [HE.out]; exact O1, B1⟩
    · have h0B : decide (i < 0) = true := by simp; omega
      have HE := Lib.hid (show behI fs i = [] by unfold behI; rw [if_neg (fun hh => h0 hh.2)])
      clear h0 hg
      go_enter Try.func36, Try.ntmps36
      go_wp2_with (go_at_call 21; refine C.out.mono ?_; rintro e w' ⟨rfl, rfl⟩)
      go_ret
      exact ⟨_, _, _, rfl, by rw [HE.out]; exact World.ownsRow_lit w #[] 0 (Nat.le_refl _) (by unfold maxLen; omega) rfl, (Below.refl _ _).alloc (Nat.le_refl _) _⟩
  · have C := Lib.hid ((specFatesValid_w (c := c) h hn).mono fun e w' (hh : e = .returned (.bool (decide (fOk fs))) ∧ w = w') => (⟨by rw [hh.1, decide_eq_false hg], hh.2⟩ : e = .returned (.bool false) ∧ w = w'))
    have HE := Lib.hid (show behI fs i = [] by unfold behI; rw [if_neg (fun hh => hg hh.1)])
    clear hg
    go_enter Try.func36, Try.ntmps36
    go_wp2_with (go_at_call 21; refine C.out.mono ?_; rintro e w' ⟨rfl, rfl⟩)
    go_ret
    exact ⟨_, _, _, rfl, by rw [HE.out]; exact World.ownsRow_lit w #[] 0 (Nat.le_refl _) (by unfold maxLen; omega) rfl, (Below.refl _ _).alloc (Nat.le_refl _) _⟩
end Go.Proofs.Ytafplpechpoliaa
