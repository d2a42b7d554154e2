/-
  Chapter 13's program, a slot: what is proved here is what a slot leaves in memory, and that nothing else is written. Condition: numbers up to 1000, slots up to 10000.
-/
import Derived.Test.YtkdjcfejkgpplaaImp13b
import Derived.Test.YtkdjcfejkgpplaaMathCredB
namespace Go.Proofs.Ytkdjcfejkgpplaa
open Go.RowKit

/-- A sender and a receiver, with what is on its way in two rings of the call's own. -/
structure Dv (w W : World) (B g3 g4 d : Nat) (c l s v m k t : Nat) (us vs : List Bool) : Prop where
  row : DvRow W B c l s v m k (.slice (some ⟨g3, 0, none⟩) d d) (.slice (some ⟨g4, 0, none⟩) d d) t
  there : Own W w.heap.size 4 (some ⟨g3, 0, none⟩) d d (bools us)
  back : Own W w.heap.size 4 (some ⟨g4, 0, none⟩) d d (bools vs)
  bel : Below w.heap.size w W
  ne : g3 ≠ g4
  ge : w.heap.size ≤ B
section
variable {w W W' : World} {B g3 g4 d c l s v m k t : Nat} {us vs : List Bool}
theorem Dv.apart (h : Dv w W B g3 g4 d c l s v m k t us vs) : B ≠ g3 ∧ B ≠ g4 := by
  have e1 := own_not13 h.there h.row (by decide)
  have e2 := own_not13 h.back h.row (by decide)
  exact ⟨fun e => e1 (by rw [e]; rfl), fun e => e2 (by rw [e]; rfl)⟩
theorem Dv.drew (h : Dv w W B g3 g4 d c l s v m k t us vs) : Dv w W.drew B g3 g4 d c l s v m k t us vs :=
  ⟨h.row.drew, h.there.bel ((Below.refl _ _).drew), h.back.bel ((Below.refl _ _).drew), h.bel.drew, h.ne, h.ge⟩
theorem own_keep13 {lo n q g : Nat} {e : TypeId} {xs : List Value} {r : Nat} (h : Own W lo e (some ⟨g, 0, none⟩) n q xs) (hg : W.grownBy W' (some r)) (hne : g ≠ r) : Own W' lo e (some ⟨g, 0, none⟩) n q xs :=
  h.grown hg (fun a ha e => by injection ha with ha; subst ha; injection e with e; exact hne e)
theorem Dv.field {c' l' s' v' m' k' t' : Nat} (h : Dv w W B g3 g4 d c l s v m k t us vs) (hr : DvRow W' B c' l' s' v' m' k' (.slice (some ⟨g3, 0, none⟩) d d) (.slice (some ⟨g4, 0, none⟩) d d) t') (hg : W.grownBy W' (some B)) : Dv w W' B g3 g4 d c' l' s' v' m' k' t' us vs := by
  obtain ⟨a1, a2⟩ := h.apart
  exact ⟨hr, own_keep13 h.there hg (fun e => a1 e.symm), own_keep13 h.back hg (fun e => a2 e.symm), h.bel.trans (below_of_grown hg h.bel.size (fun j hj => by injection hj with hj; have := h.ge; omega)), h.ne, h.ge⟩
theorem Dv.ring3 {us' : List Bool} (h : Dv w W B g3 g4 d c l s v m k t us vs) (ho : Own W' w.heap.size 4 (some ⟨g3, 0, none⟩) d d (bools us')) (hg : W.grownBy W' (some g3)) : Dv w W' B g3 g4 d c l s v m k t us' vs := by
  obtain ⟨a1, a2⟩ := h.apart
  have h4 := World.ownsRow.lt h.there g3 rfl
  exact ⟨h.row.grown hg (fun e => a1 (by injection e with e; exact e.symm)), ho, own_keep13 h.back hg (fun e => h.ne e.symm), h.bel.trans (below_of_grown hg h.bel.size (fun j hj => by injection hj with hj; omega)), h.ne, h.ge⟩
theorem Dv.ring4 {vs' : List Bool} (h : Dv w W B g3 g4 d c l s v m k t us vs) (ho : Own W' w.heap.size 4 (some ⟨g4, 0, none⟩) d d (bools vs')) (hg : W.grownBy W' (some g4)) : Dv w W' B g3 g4 d c l s v m k t us vs' := by
  obtain ⟨a1, a2⟩ := h.apart
  have h4 := World.ownsRow.lt h.back g4 rfl
  exact ⟨h.row.grown hg (fun e => a2 (by injection e with e; exact e.symm)), own_keep13 h.there hg h.ne, ho, h.bel.trans (below_of_grown hg h.bel.size (fun j hj => by injection hj with hj; omega)), h.ne, h.ge⟩
end

set_option maxRecDepth 100000 in
set_option maxHeartbeats 8000000 in
theorem slot_any {w W : World} {B g3 g4 d c l s v m k t : Nat} {us vs : List Bool} {op : Bool} (h : Dv w W B g3 g4 d c l s v m k t us vs) (hd : 1 ≤ d ∧ d ≤ 1000) (hc : c ≤ 100) (hl : l ≤ 1000) (hs : s ≤ 1000) (hv : v ≤ 100) (hm : m ≤ 100) (hvm : v ≤ m) (hk : k ≤ 1000) (ht : t ≤ 10000) {bt ft T S : Bool} (hb : vs.getD (t % d) false = bt) (hf : us.getD (t % d) false = ft) (hT : (op && decide (0 < v + ft.toNat)) = T) (hS : (decide (0 < c + bt.toNat) && decide (0 < l)) = S) :
    Calls Try.prog 37 #[.pointer (some ⟨B, 0, none⟩), .bool op] W fun e W' => e = .returned (.tuple #[]) ∧ Dv w W' B g3 g4 d (c + bt.toNat - S.toNat) (l - S.toNat) (s + S.toNat) (v + ft.toNat - T.toNat) (max m (v + ft.toNat)) (k + T.toNat) (t + 1) (us.set (t % d) S) (vs.set (t % d) T) := by
  have hbt := toNat_le bt
  have hft := toNat_le ft
  -- the first credit
  have HD := Lib.hid h
  obtain ⟨c6, c7, c8⟩ := h.row.rings
  have D1 := h.drew
  obtain ⟨V1, hV1⟩ : ∃ V1, W.drew = V1 := ⟨_, rfl⟩
  rw [hV1] at D1
  obtain ⟨d6, d7, d8⟩ := D1.row.rings
  have A1 := Lib.hid (arrives_any (c := d) D1.back.has hd (by omega) hb)
  have R1 := Lib.hid (regain_any (b := bt) D1.row (by omega))
  have HD1 := Lib.hid D1
  clear D1 h
  go_enter Try.func37, Try.ntmps37
  go_wp2
  go_still_tail 9, (by kernel_rfl)
  still_call (A1.out.mono fun e w' hh => ⟨hh.1, hh.2.symm⟩)
  repeat still_step
  refine wpStill_nil ?_
  go_wp2_with (fail)
  refine R1.out.mono ?_
  rintro e w2 ⟨rfl, RW2, G2⟩
  have D2 := (HD1.out.field RW2 G2).drew
  clear RW2 G2 HD1 R1 A1 d6 d7 d8 c6 c7 c8
  -- the first frame
  obtain ⟨V2, hV2⟩ : ∃ V2, w2.drew = V2 := ⟨_, rfl⟩
  rw [hV2] at D2
  obtain ⟨d6, d7, d8⟩ := D2.row.rings
  have A2 := Lib.hid (arrives_any (c := d) D2.there.has hd (by omega) hf)
  have R2 := Lib.hid (hear_any (b := ft) D2.row (by omega) hvm)
  have HD2 := Lib.hid D2
  clear D2
  go_wp2
  go_still_tail 9, (by kernel_rfl)
  still_call (A2.out.mono fun e w' hh => ⟨hh.1, hh.2.symm⟩)
  repeat still_step
  refine wpStill_nil ?_
  go_wp2_with (fail)
  refine R2.out.mono ?_
  rintro e w3 ⟨rfl, RW3, G3⟩
  have D3 := (HD2.out.field RW3 G3).drew
  clear RW3 G3 HD2 R2 A2 d6 d7 d8
  -- a frame is taken
  obtain ⟨X3, hX3⟩ : ∃ X3, w3.drew = X3 := ⟨_, rfl⟩
  rw [hX3] at D3
  obtain ⟨x6, x7, x8⟩ := D3.row.rings
  have TK := take_any (op := op) D3.row (by omega) hk
  rw [hT] at TK
  have HTK := Lib.hid TK
  have HD3 := Lib.hid D3
  have HLV := Lib.hid (fun (V : World) (hV : Dv w V B g3 g4 d (c + bt.toNat) l s (v + ft.toNat - T.toNat) (max m (v + ft.toNat)) (k + T.toNat) t us vs) => leave_any (b := T) (t := t) hV.back hd (by omega))
  clear TK D3
  go_wp2
  subst hX3
  go_region_held3 (fun w' => w'.cell? ⟨B, 7, none⟩ = some (.slice (some ⟨g4, 0, none⟩) d d)) (first | exact x7 | exact e7 | exact e8) (first | (go_at_call 51; refine HTK.out.mono ?_; rintro e w5 ⟨rfl, RW5, G5⟩; have D5 := HD3.out.field RW5 G5; have e7 := D5.row.rings.2.1) | (go_at_call 50; refine (HLV.out _ D5).mono ?_; rintro e w6 ⟨rfl, O6, G6⟩; have D6 := D5.ring4 O6 G6; have e8 := D6.row.rings.2.1))
  clear HD3 HTK HLV x6 x7 x8 O6 G6 D5 e7 e8 RW5 G5
  -- a frame is sent
  have D4 := D6.drew
  obtain ⟨X4, hX4⟩ : ∃ X4, w6.drew = X4 := ⟨_, rfl⟩
  rw [hX4] at D4
  obtain ⟨x6, x7, x8⟩ := D4.row.rings
  have hT1 := toNat_le T
  have SD := send_any D4.row (by omega) hl hs
  rw [hS] at SD
  have HSD := Lib.hid SD
  have HD4 := Lib.hid D4
  have HLV := Lib.hid (fun (V : World) (hV : Dv w V B g3 g4 d (c + bt.toNat - S.toNat) (l - S.toNat) (s + S.toNat) (v + ft.toNat - T.toNat) (max m (v + ft.toNat)) (k + T.toNat) t us (vs.set (t % d) T)) => leave_any (b := S) (t := t) hV.there hd (by omega))
  clear SD D4 D6
  go_wp2
  subst hX4
  go_region_held3 (fun w' => w'.cell? ⟨B, 6, none⟩ = some (.slice (some ⟨g3, 0, none⟩) d d)) (first | exact x6 | exact e6 | exact e8) (first | (go_at_call 52; refine HSD.out.mono ?_; rintro e w7 ⟨rfl, RW7, G7⟩; have D7 := HD4.out.field RW7 G7; have e6 := D7.row.rings.1) | (go_at_call 50; refine (HLV.out _ D7).mono ?_; rintro e w8 ⟨rfl, O8, G8⟩; have D8 := D7.ring3 O8 G8; have e8 := D8.row.rings.1))
  obtain ⟨z6, z7, z8⟩ := D8.row.rings
  have q8 := D8.row.open_ 8
  have R9 := (D8.row.set8 ((t : Int) + 1)).of (t' := ((t + 1 : Nat) : Int)) rfl rfl rfl rfl rfl rfl rfl
  have D9 := Lib.hid (D8.field R9 (one_grown13 w8 B 8 _))
  clear HD4 HSD HLV x6 x7 x8 O8 G8 D7 e6 e8 RW7 G7 D8 R9
  go_wp2
  refine bodyPost_end (results_none rfl _ _ _) rfl ?_
  exact ⟨rfl, D9.out⟩
end Go.Proofs.Ytkdjcfejkgpplaa
