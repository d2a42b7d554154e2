/-
  PassWire of the program: what is proved here is that it returns what arrives, new memory for each, and writes nothing that was there. Condition: lengths up to 2^24.
-/
import Derived.Test.YtafplpechpoliaaImp4b
import Derived.Test.YtafplpechpoliaaPass
namespace Go.Proofs.Ytafplpechpoliaa
open Go.RowKit

/-- A copy of bytes: new memory, or nil if they were. -/
theorem cloneBytes_any {A : Option Addr} {n c : Nat} {zs : List Int} {w : World} (h : Has w A n (ints .u8 zs)) (hn : n ≤ 16777216) :
    Calls Try.prog 79 #[.slice A n c] w fun e w' => ∃ A' c', e = .returned (.slice A' n c') ∧ Own w' w.heap.size 5 A' n c' (ints .u8 zs) ∧ Below w.heap.size w w' := by
  obtain ⟨i0, hi, hz0, hz1, hz2⟩ := info_parts Try.infoU8
  have B0 : Below w.heap.size w (w.alloc (.cells #[] 5)) := (Below.refl _ _).alloc (Nat.le_refl _) _
  have qT : ∀ (w : World) (a : Option Addr) (n c n' c' : Nat), (binOp .eql 22 (.slice a n c) (.slice none n' c')).run Try.prog w = .ok (.bool a.isNone) w := fun w a n c n' c' => Lib.run_eql_slice_nil w _ _ a n c n' c' Try.underlying22
  cases A with
  | none =>
    have hz : zs = [] := by
      have h1 := h.len
      cases n with
      | zero => exact List.length_eq_zero_iff.1 h1
      | succ n => obtain ⟨b, o, hh, _⟩ := h.2 0 (by omega); cases hh
    subst hz
    have h1 := h.len
    obtain rfl : 0 = n := h1
    go_enter Try.func79, Try.ntmps79
    go_wp2
    go_ret
    exact ⟨_, _, rfl, ⟨rfl, .inl ⟨rfl, rfl⟩⟩, Below.refl _ _⟩
  | some a =>
    go_enter Try.func79, Try.ntmps79
    go_wp2_with (at_builtin; refine wpList_app_has _ rfl (.tmp 5) (.tmp 6) 22 rfl w.heap.size 5 i0 (.int .u8 0) 1 Try.underlying22 hi hz0 hz1 hz2 rfl (some ⟨w.heap.size, 0, none⟩) 0 0 [] rfl (World.ownsRow_lit w #[] 0 (Nat.le_refl _) (by unfold maxLen; omega) rfl) (some a) n c (ints .u8 zs) rfl (h.bel B0) (ints_oneCell _ _) (by omega) (by decide) (by simp) ?_; intro A3 c3 w3 O3 G3 B3; rw [Nat.zero_add, List.nil_append] at O3)
    go_ret
    exact ⟨_, _, rfl, O3, B0.trans B3⟩

set_option maxHeartbeats 1000000 in
theorem carry_any {A : Option Addr} {n c : Nat} {f : Int} {zs : List Int} {w : World} (h : Has w A n (ints .u8 zs)) (hn : n ≤ 600) :
    Calls Try.prog 63 #[.int .i64 f, .slice A n c] w fun e w' => ∃ A' c', e = .returned (.slice A' n c') ∧ Own w' w.heap.size 5 A' n c' (ints .u8 (if f = 4 ∧ 0 < n then flipBit zs 0 else zs)) ∧ Below w.heap.size w w' := by
  have C := Lib.hid (cloneBytes_any (c := c) h (by omega))
  have hl := h.len
  by_cases hf : f = 4
  · have hfB : (f == 4) = true := by simp [hf]
    by_cases h0 : 0 < n
    · have h0B : decide ((n : Int) > 0) = true := by simp; omega
      have h0C : decide (0 < (n : Int)) = true := by simp; omega
      obtain ⟨z, hz⟩ : ∃ z, zs[0]? = some z := ⟨zs[0], List.getElem?_eq_getElem (by omega)⟩
      have HE := Lib.hid (show (if f = 4 ∧ 0 < n then flipBit zs 0 else zs) = zs.set 0 (xor8 z 128) by rw [if_pos ⟨hf, h0⟩, flip0_of (by omega) (by omega) hz])
      clear hf
      rw [HE.out]
      go_enter Try.func63, Try.ntmps63
      go_wp2_with (fail)
      refine C.out.mono ?_
      rintro e w1 ⟨A1, c1, rfl, O1, B1⟩
      obtain ⟨g, rfl, hg0, hg1'⟩ := O1.head h0
      obtain ⟨u, hu1, hd1, hf1⟩ := O1.at_ (k := 0) h0
      rw [show (ints .u8 zs)[0]? = some (.int .u8 z) by simp [ints, hz]] at hu1
      obtain rfl : Value.int .u8 z = u := by injection hu1
      clear hu1 hz
      go_wp2
      go_ret
      exact ⟨_, _, rfl, by rw [← ints_set]; exact O1.set_ 0 _, B1.setCell hg0 _⟩
    · have h0B : decide ((n : Int) > 0) = false := by simp; omega
      have h0C : decide (0 < (n : Int)) = false := by simp; omega
      rw [if_neg (fun hh => h0 hh.2)]
      clear hf
      go_enter Try.func63, Try.ntmps63
      go_wp2_with (fail)
      refine C.out.mono ?_
      rintro e w1 ⟨A1, c1, rfl, O1, B1⟩
      go_wp2
      go_ret
      exact ⟨_, _, rfl, O1, B1⟩
  · have hfB : (f == 4) = false := by simp [hf]
    rw [if_neg (fun hh => hf hh.1)]
    clear hf
    go_enter Try.func63, Try.ntmps63
    go_wp2_with (fail)
    refine C.out.mono ?_
    rintro e w1 ⟨A1, c1, rfl, O1, B1⟩
    go_wp2
    go_ret
    exact ⟨_, _, rfl, O1, B1⟩

theorem grown_of_alloc {w w' : World} {o : Obj} {row : Option Nat} (h : (w.alloc o).grownBy w' row) : w.grownBy w' row :=
  ⟨h.os, h.tape, h.output, Nat.le_trans (by simp) h.size, fun k hk hne => (h.block k (by simp; omega) hne).trans (heap_alloc_old w o hk)⟩
set_option maxHeartbeats 4000000 in
theorem implPassWire_w {A B : Option Addr} {n c m d : Nat} {fs : List Int} {l : List (List Int)} {w : World} (h : Has w A n (ints .i64 fs)) (hn : n ≤ 16777216) (hL : HasL w B m l) (hu : ∀ p ∈ l, U8s p) (hm : m ≤ 16777216) (hlen : ∀ p ∈ l, p.length ≤ 16777216) :
    Calls Try.prog 24 #[.slice A n c, .slice B m d] w fun e w' => ∃ A' n' c', e = .returned (.slice A' n' c') ∧ OwnL w' w.heap.size A' n' c' (passL fs l) ∧ Below w.heap.size w w' := by
  obtain ⟨j0, hj, hy0, hy1, hy2⟩ := info_parts Try.infoSl
  have HLN := Lib.hid hL.len
  have O0 := ownL_nil w w.heap.size
  have HG := Lib.hid hlen
  have HU := Lib.hid hu
  have hb : ∀ x ∈ arrI fs (m : Int), 0 ≤ x ∧ x < (m : Int) := fun x hx => by have := arrI_b hx; omega
  have HBX := Lib.hid hb
  have CA := Lib.hid (implArrivalsOf_w (c := c) (i := (m : Int)) h hn (by omega))
  have h15 := arrI_le fs (m : Int)
  have HP : Hid ((∀ p ∈ l, p.length ≤ 600) → passL fs l = gotOf fs l (arrI fs (m : Int))) := fun hh => by
    by_cases hg : listOk l
    · unfold passL; rw [if_pos hg, HLN.out]
    · have h60 : ¬ (0 ≤ (m : Int) ∧ (m : Int) ≤ 60) := fun h2 => hg ⟨hh, by have := HLN.out; omega⟩
      unfold passL arrI gotOf
      rw [if_neg hg, if_neg (fun h3 => h60 h3.2)]; rfl
  have HPN : Hid ((∃ p ∈ l, 600 < p.length) → passL fs l = []) := fun hh => by
    obtain ⟨p, hp, h6⟩ := hh
    unfold passL
    rw [if_neg (fun hg => by have := hg.1 p hp; omega)]
  clear hb hu hlen
  go_enter Try.func24, Try.ntmps24
  go_wp2
  go_loop [12] (fun i => ∃ k : Nat, k ≤ m ∧ i = .int .i64 k ∧ Hid (∀ p ∈ l.take k, p.length ≤ 600)) (fun i => m - (intOf i).toNat)
  case atStart =>
    have : Hid (∀ p ∈ l.take 0, p.length ≤ 600) := fun f hf => by simp at hf
    exact ⟨0, Nat.zero_le _, rfl, this⟩
  case round =>
    obtain ⟨k, hk, rfl, HF⟩ := hrel
    by_cases hlt : k < m
    · have hltB : decide ((k : Int) < (m : Int)) = true := by simp; omega
      obtain ⟨b, o, X, q, d1, p, rfl, hbl, hp, hc, hqd, hX⟩ := hL.at_ hlt
      have hq := hX.len
      have hq2 := HG.out p (List.mem_of_getElem? hp)
      by_cases hz : q ≤ 600
      · have HF2 : Hid (∀ p ∈ l.take (k + 1), p.length ≤ 600) := by
          have : ∀ p ∈ l.take (k + 1), p.length ≤ 600 := by
            intro f hf
            rw [List.take_add_one, hp] at hf
            rcases List.mem_append.1 hf with hf | hf
            · exact HF.out f hf
            · simp at hf; subst hf; omega
          exact this
        have hzB : decide (q ≤ 600) = true := by simp [hz]
        clear hp
        go_wp2_with (go_at_call 62; refine (isData_any _ _ _ _ (by omega)).mono ?_; rintro e w' ⟨rfl, rfl⟩)
        go_round
        case rel => exact ⟨k + 1, by omega, by go_num, HF2⟩
        case measure => simp [intOf]; omega
      · have HB : Hid (passL fs l = []) := HPN.out ⟨p, List.mem_of_getElem? hp, by omega⟩
        have hzB : decide (q ≤ 600) = false := by simp [hz]
        clear hp hz
        go_wp2_with (go_at_call 62; refine (isData_any _ _ _ _ (by omega)).mono ?_; rintro e w' ⟨rfl, rfl⟩)
        go_ret
        exact ⟨_, _, _, rfl, by rw [HB.out]; exact O0, Below.refl _ _⟩
    · have hltB : decide ((k : Int) < (m : Int)) = false := by simp; omega
      obtain rfl : k = m := by omega
      have HL6 : Hid (∀ p ∈ l, p.length ≤ 600) := by
        have h1 := HF.out
        rw [List.take_of_length_le (by have := HLN.out; omega)] at h1
        exact h1
      have HP2 := Lib.hid (HP.out HL6.out)
      generalize arrI fs (k : Int) = es at *
      clear HP HPN HF hltB hlt
      go_wp2_with (fail)
      refine CA.out.mono ?_
      rintro e w1 ⟨A1, n1, c1, rfl, O1, B1⟩
      have hn1 : n1 ≤ 14760 := by have := O1.has.len; omega
      have HN1 := Lib.hid O1.has.len
      have O01 := O0.bel B1
      have s1 := B1.size
      have AW0 : Away none w.heap.size w1.heap.size := fun b hb => by cases hb
      go_wp2
      obtain ⟨wo, rfl⟩ : ∃ wo : World, wo = w1 := ⟨_, rfl⟩
      go_loopw [7, 25] (fun v i wr => ∃ k A' q c', k ≤ n1 ∧ q ≤ k ∧ i = .int .i64 ((k : Nat) : Int) ∧ v = .slice A' q c' ∧ OwnL wr w.heap.size A' q c' (gotOf fs l (es.take k)) ∧ Below w.heap.size w wr ∧ Mid w.heap.size wo.heap.size wo wr ∧ Away A' w.heap.size wo.heap.size ∧ wo.heap.size ≤ wr.heap.size) (fun _ i _ => n1 - (intOf i).toNat)
      case atStart => exact ⟨0, _, 0, _, by omega, by omega, rfl, rfl, O01, B1, Mid.refl _ _ _, AW0, Nat.le_refl _⟩
      case round =>
        rename_i wr
        obtain ⟨k2, A2, q, c2, hk2, hq, rfl, rfl, O2, B2, D2, AW, sd⟩ := hrel
        have hge := B2.size
        have H1 : Has wr A1 n1 (ints .i64 es) := O1.has.stay (fun a ha => by subst ha; exact D2 _ O1.block.1 O1.block.2)
        by_cases hlt : k2 < n1
        · have hltB : decide ((k2 : Int) < (n1 : Int)) = true := by simp; omega
          obtain ⟨b1, o1, x, rfl, hbl1, hx1, hc1⟩ := H1.at_ hlt
          have hxb := HBX.out x (List.mem_of_getElem? hx1)
          obtain ⟨j, rfl⟩ := Int.eq_ofNat_of_zero_le hxb.1
          have hjm : j < k := by omega
          have HS : Hid (gotOf fs l (es.take (k2 + 1)) = gotOf fs l (es.take k2) ++ [gotN fs l j]) := gotOf_snoc fs l es k2 _ hx1
          obtain ⟨b, o, X, t, d2, p, rfl, hbl, hp, hc, hqd, hX⟩ := (hL.bel B2).at_ hjm
          have ht6 : t ≤ 600 := by have q1 := HL6.out p (List.mem_of_getElem? hp); have q2 := hX.len; omega
          have HGN : Hid (gotN fs l j = if fateN fs j = 4 ∧ 0 < t then flipBit p 0 else p) := by
            have h1 := gotN_at fs l j p hp
            rw [hX.len] at h1
            exact h1
          have hFB : ∀ W : World, Below w.heap.size w W → Calls Try.prog 51 #[.slice A n c, .int .i64 (j : Int)] W fun e w' => e = .returned (.int .i64 (fateN fs j)) ∧ W = w' := fun W hW => fateAt_any (c := c) j (h.bel hW) hn
          have HFA := Lib.hid hFB
          have hj0 : (0 : Int) ≤ (j : Int) := by omega
          have hj1 : (j : Int) < (k : Int) := by omega
          have DB : Below wr.heap.size wr wr.drew := (Below.refl _ _).drew
          have hXd := hX.bel DB
          have CC := Lib.hid (carry_any (c := d2) (f := fateN fs j) hXd ht6)
          clear hx1 hp hFB hxb
          go_wp2
          go_region_law (first | ((with_reducible refine step_append_lies _ rfl (.tmp 29) (.tmp 38) 31 rfl w.heap.size 22 j0 (.slice none 0 0) 1 24 Try.underlying31 hj hy0 hy1 hy2 ?c1 ?c2 (.slice A2 q c2) q vs rfl O6 ⟨w5.heap.size, 0, none⟩ 1 1 (#[Value.slice A5 t c5] : Array Value).toList rfl ?c3 N6.out ?c4 ?c5 ?c6 ?c7 Z6 _ rfl ?_); (case c1 => rfl); (case c2 => decide); (case c3 => rfl); (case c4 => simp [Value.oneCell']); (case c5 => decide); (case c6 => unfold maxLen; omega); (case c7 => omega); intro g4 c4 w4 O4 G4 hat4 _) | (go_simp; go_at_call 51; (with_reducible refine (HFA.out _ B2.drew).mono ?_); rintro e w' ⟨rfl, rfl⟩) | (go_simp; go_at_call 63; (with_reducible refine CC.out.mono ?_); rintro e w5 ⟨A5, c5, rfl, O5, B5⟩; have B5' : Below wr.heap.size wr w5 := DB.trans B5; have s5 := B5'.size; obtain ⟨vs, Ov, HV⟩ := O2.snoc B5' hge O5; have O6 : (w5.alloc (.cells #[Value.slice A5 t c5] 22)).ownsRow w.heap.size 22 1 (.slice A2 q c2) q vs := World.ownsRow.alloc Ov _; have N6 := Lib.hid (World.news_of_block (w := w5.alloc (.cells #[Value.slice A5 t c5] 22)) (B := w5.heap.size) (cs := #[Value.slice A5 t c5]) (t := 22) (fr := (0, 0)) (heap_alloc_new w5 _)); have Z6 : w.heap.size ≤ (w5.alloc (.cells #[Value.slice A5 t c5] 22)).heap.size := by simp; omega))
          all_goals
            have G5 := grown_of_alloc G4
            have e5 : (Value.slice A2 q c2).ownBlock = A2.map (·.block) := by cases A2 <;> rfl
            rw [e5] at G5 hat4
            have hat5 : A2.map (·.block) = some g4 ∨ w5.heap.size ≤ g4 := by
              rcases hat4 with h4 | h4
              · exact .inl h4
              · right; rw [h4]; simp
            have D5 := D2.bel B5' sd
            have B6 : Below w.heap.size w w4 := ((B2.trans (B5'.mono hge)).trans ((Below.refl _ _).alloc (by omega) _)).trans (below_of_grown G4 Z6 (fun g hg => (World.ownsRow.lt O6 g hg).1))
            have s4 := World.grownBy.size G5
            have O7 := HV g4 c4 w4 O4 G5 hat5
            rw [← HGN.out, ← HS.out] at O7
            have D6 := D5.grown G5 (by omega) AW
            have AW6 := away_next (w := w5) AW (by omega) hat5
            clear HV O4 G4 G5 hat4 hat5 O6 N6 D5 e5
            go_wp2
            go_roundw
            case rel => exact ⟨k2 + 1, _, q + 1, _, by omega, by omega, by go_num, rfl, O7, B6, D6, AW6, by omega⟩
            case measure => simp [intOf]; omega
        · have hltB : decide ((k2 : Int) < (n1 : Int)) = false := by simp; omega
          obtain rfl : k2 = n1 := by omega
          go_wp2
          go_ret
          rw [List.take_of_length_le (by have := HN1.out; omega), ← HP2.out] at O2
          exact ⟨_, _, _, rfl, O2, B2⟩
end Go.Proofs.Ytafplpechpoliaa
