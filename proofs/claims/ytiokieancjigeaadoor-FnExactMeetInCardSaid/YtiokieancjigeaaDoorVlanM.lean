/-
  The laws' own marks on ports and on frames that go out: what is proved here is what they write and read, and that all else stays. Condition: lengths up to 2^24.
-/
import Derived.Test.YtiokieancjigeaaDoorVlanL
import Derived.Test.YtiokieancjigeaaDoorVlanD
namespace Go.Proofs.YtiokieancjigeaaDoor
open Go.RowKit

/-- What lies outside the blocks from lo to hi is as it was. -/
structure Win (lo hi : Nat) (w w' : World) : Prop where
  os : w'.os = w.os
  tape : w'.tape = w.tape
  output : w'.output = w.output
  size : w.heap.size ≤ w'.heap.size
  block : ∀ i, i < w.heap.size → (i < lo ∨ hi ≤ i) → w'.heap[i]? = w.heap[i]?
theorem Win.refl (lo hi : Nat) (w : World) : Win lo hi w w := ⟨rfl, rfl, rfl, Nat.le_refl _, fun _ _ _ => rfl⟩
theorem Win.trans {lo hi : Nat} {a b c : World} (h : Win lo hi a b) (k : Win lo hi b c) : Win lo hi a c :=
  ⟨k.os.trans h.os, k.tape.trans h.tape, k.output.trans h.output, Nat.le_trans h.size k.size, fun i hi hq => (k.block i (Nat.lt_of_lt_of_le hi h.size) hq).trans (h.block i hi hq)⟩
theorem Win.of_grown {lo hi : Nat} {w w' : World} {row : Option Nat} (hg : w.grownBy w' row) (h : ∀ b, row = some b → lo ≤ b ∧ b < hi) : Win lo hi w w' :=
  ⟨hg.os, hg.tape, hg.output, hg.size, fun i hi hq => hg.block i hi fun e => by have := h i e.symm; omega⟩
theorem Win.below {lo hi B : Nat} {w w' : World} (h : Win lo hi w w') (hB : B ≤ lo) (hw : B ≤ w.heap.size) : Below B w w' := ⟨h.os, h.tape, h.output, h.size, fun i hi => h.block i (by omega) (.inl (by omega))⟩
theorem Win.own {lo hi l n c : Nat} {e : TypeId} {A : Option Addr} {xs : List Value} {w w' : World} (h : Win lo hi w w') (hO : Own w l e A n c xs) (hb : ∀ b, (Value.slice A n c).ownBlock = some b → b < lo ∨ hi ≤ b) : Own w' l e A n c xs :=
  hO.heapEqP fun b hb' => h.block b (blk_lt hO hb').2 (hb b hb')
theorem Win.ownO {lo hi l n c : Nat} {A : Option Addr} {xs : List (Int × Int)} {w w' : World} (h : Win lo hi w w') (hO : OwnO w l A n c xs) (hb : ∀ b, (Value.slice A n c).ownBlock = some b → b < lo ∨ hi ≤ b) : OwnO w' l A n c xs :=
  hO.heapEq fun b hb' => h.block b (hO.blk hb').2 (hb b hb')
section
variable {w w' : World} {lo n c : Nat} {pvs : List PV} {ps : List Port} {g k : Nat} {pv : PV}
theorem inP_set {A : Option Addr} {v : PV} (hk : pvs[k]? = some pv) (hv : v.2.2 = pv.2.2) {b : Nat} (h : InP A (pvs.set k v) b) : InP A pvs b := by
  rcases h with h | ⟨i, u, hi, hb⟩
  · exact .inl h
  · by_cases hik : i = k
    · subst hik
      rw [List.getElem?_set_self ((List.getElem?_eq_some_iff.1 hk).1)] at hi
      injection hi with hi
      subst hi
      exact .inr ⟨i, pv, hk, by rw [← hv]; exact hb⟩
    · rw [List.getElem?_set_ne (by omega)] at hi
      exact .inr ⟨i, u, hi, hb⟩
/-- The two numbers of a port are written. -/
theorem OwnP.nums {l : List Int} (h : OwnP w lo (some ⟨g, 0, none⟩) n c pvs ps) (hpv : pvs[k]? = some pv) (hp : ps[k]? = some (pv.1, pv.2.1, l)) (x q : Int) :
    OwnP ((w.setCell ⟨g, k * 3, none⟩ (.int .i64 x)).setCell ⟨g, k * 3 + 1, none⟩ (.int .i64 q)) lo (some ⟨g, 0, none⟩) n c (pvs.set k (x, q, pv.2.2)) (ps.set k (x, q, l)) := by
  have hk : k < n := by rw [← h.len.1]; exact (List.getElem?_eq_some_iff.1 hpv).1
  obtain ⟨q1, r1⟩ := World.ownsRow.stored h.1 (k * 3) (.int .i64 x)
  obtain ⟨q2, r2⟩ := World.ownsRow.stored q1 (k * 3 + 1) (.int .i64 q)
  obtain ⟨_, _, B, m, d, k2, hO⟩ := h.2.2.1 k pv _ hpv hp
  have far : ∀ b, b ≠ g → ((w.setCell ⟨g, k * 3, none⟩ (.int .i64 x)).setCell ⟨g, k * 3 + 1, none⟩ (.int .i64 q)).heap[b]? = w.heap[b]? := fun b hb =>
    (heap_setCell_other _ ⟨g, k * 3 + 1, none⟩ b _ hb).trans (heap_setCell_other _ ⟨g, k * 3, none⟩ b _ hb)
  have hne : ∀ (i : Nat) (u : PV), pvs[i]? = some u → ∀ b, u.2.2.ownBlock = some b → b ≠ g := fun i u hi b hb e => h.2.2.2.1 i u hi b hb (by rw [e]; rfl)
  refine h.upd hk ?_ (fun i u _ hi b hb => far b (hne i u hi b hb)) ⟨rfl, rfl, B, m, d, k2, hO.heapEqP fun b hb => far b (hne k pv hpv b (by rw [k2]; exact hb))⟩ fun b hb => ⟨fun e => hne k pv hpv b hb (by injection e with e; exact e.symm), fun i u hik hi e => h.2.2.2.2 i k u pv hik hi hpv b e hb⟩
  rw [flatP_set0 pvs k pv x hpv] at q2
  have hs : (pvs.set k (x, pv.2))[k]? = some (x, pv.2) := List.getElem?_set_self ((List.getElem?_eq_some_iff.1 hpv).1)
  rw [flatP_set1 _ k _ q hs, List.set_set] at q2
  exact q2
/-- A port's networks are written. -/
theorem OwnP.car {B : Option Addr} {m d : Nat} {x q : Int} {l l' : List Int} {A : Option Addr} (h : OwnP w lo A n c pvs ps) (hpv : pvs[k]? = some pv) (hv : pv.2.2 = .slice B m d) (hp : ps[k]? = some (x, q, l)) (hO : Own w' lo 3 B m d (ints .i64 l')) (hg : w.grownBy w' (B.map (·.block))) :
    OwnP w' lo A n c pvs (ps.set k (x, q, l')) := by
  have hk : k < n := by rw [← h.len.1]; exact (List.getElem?_eq_some_iff.1 hpv).1
  obtain ⟨k0, k1, _⟩ := h.2.2.1 k pv _ hpv hp
  have hself : pvs.set k pv = pvs := by
    apply List.ext_getElem?
    intro i
    by_cases hi : i = k
    · subst hi; rw [List.getElem?_set_self ((List.getElem?_eq_some_iff.1 hpv).1), hpv]
    · rw [List.getElem?_set_ne (by omega)]
  have hmap : ∀ b, B.map (·.block) = some b → pv.2.2.ownBlock = some b := fun b hb => by rw [hv]; cases B with
    | none => cases hb
    | some a => exact hb
  have hrow := (h.1).kept hg (by
    cases hA : (Value.slice A n c).ownBlock with
    | none => exact .inl rfl
    | some b =>
      refine .inr fun e => ?_
      have h1 := hmap b e.symm
      have h2 := h.2.2.2.1 k pv hpv b h1
      cases A with
      | none => cases hA
      | some a => exact h2 hA)
  have key := h.upd hk (pv' := pv) (p' := (x, q, l')) (by rw [hself]; exact hrow) (fun i u hik hi b hb => hg.block b (h.inner hi hb).2 fun e => h.2.2.2.2 i k u pv hik hi hpv b hb (hmap b e.symm)) ⟨k0, k1, B, m, d, hv, hO⟩ fun b hb => ⟨h.2.2.2.1 k pv hpv b hb, fun i u hik hi e => h.2.2.2.2 i k u pv hik hi hpv b e hb⟩
  rw [hself] at key
  exact key
end
theorem prod10 (k n : Nat) (h : k ≤ n) (hn : n ≤ 1048576) : k * (1048578 - n) ≤ 600000000000 := by
  by_cases h2 : n ≤ 524288
  · have h3 : k * (1048578 - n) ≤ 524288 * 1048578 := Nat.mul_le_mul (by omega) (by omega)
    omega
  · have h3 : k * (1048578 - n) ≤ 1048576 * 524290 := Nat.mul_le_mul (by omega) (by omega)
    omega
set_option maxRecDepth 100000 in
set_option maxHeartbeats 4000000 in
theorem markVPortS_any {n c lo hi K g : Nat} {pvs : List PV} {ps : List Port} {w : World} (h : OwnP w lo (some ⟨g, 0, none⟩) n c pvs ps) (hn : n ≤ 1048576) (hl : SmallP n ps) (hhi : ∀ b, InP (some ⟨g, 0, none⟩) pvs b → b < hi) (hK : K ≤ 1048576) :
    Calls Tryd.prog 17 #[.slice (some ⟨g, 0, none⟩) n c, .int .i64 (K : Int)] w fun e w' => (∃ v : Nat, e = .returned (.int .i64 (v : Int))) ∧ Win lo hi w w' := by
  have HLN := Lib.hid h.len.2
  go_enter Tryd.func17, Tryd.ntmps17
  go_wp2
  go_loopw [1, 5] (fun q i wr => ∃ (k v : Nat) (pvs' : List PV) (ps' : List Port), k ≤ n ∧ v ≤ 1048576 + k * (1048578 - n) ∧ i = .int .i64 (k : Int) ∧ q = .int .i64 (v : Int) ∧ OwnP wr lo (some ⟨g, 0, none⟩) n c pvs' ps' ∧ Hid (SmallP n ps') ∧ Hid (∀ b, InP (some ⟨g, 0, none⟩) pvs' b → lo ≤ b ∧ b < hi) ∧ Win lo hi w wr) (fun _ i _ => n - (intOf i).toNat)
  case atStart => exact ⟨0, K, pvs, ps, Nat.zero_le _, by omega, rfl, rfl, h, hl, fun b hb => ⟨(h.bounds hb).1, hhi b hb⟩, Win.refl _ _ _⟩
  case round =>
    obtain ⟨k, v, pvs', ps', hk, hv, rfl, rfl, O1, HS, HI, HW⟩ := hrel
    by_cases hlt : k < n
    · have hltB : decide ((k : Int) < (n : Int)) = true := by simp; omega
      obtain ⟨pv, B, m, d, l, hpv, hpv2, c0, c1, c2, fz, hO, hp⟩ := O1.cells hlt
      have hm : m + n ≤ 1048576 := by have h1 := HS.out _ (List.mem_of_getElem? hp); have h2 := hO.has.len; have h3 : l.length + n ≤ 1048576 := h1; omega
      have hv2 : v ≤ 1099511627774 := by have := prod10 k n (by omega) (by omega); omega
      have hv3 : v + 2 + m ≤ 1048576 + (k + 1) * (1048578 - n) := by rw [Nat.add_mul, Nat.one_mul]; omega
      have O2 := O1.nums hpv hp (v : Int) ((v : Int) + 1)
      have hgI := HI.out g (.inl rfl)
      have W2 : Win lo hi wr ((wr.setCell ⟨g, k * 3, none⟩ (.int .i64 (v : Int))).setCell ⟨g, k * 3 + 1, none⟩ (.int .i64 ((v : Int) + 1))) :=
        Win.of_grown (row := some g) (grown_set (grown_set (World.grownBy.refl wr (some g)) _ _) _ _) (fun b hb => by injection hb with hb; subst hb; exact hgI)
      obtain ⟨V, hV⟩ : ∃ V, ((wr.setCell ⟨g, k * 3, none⟩ (.int .i64 (v : Int))).setCell ⟨g, k * 3 + 1, none⟩ (.int .i64 ((v : Int) + 1))) = V := ⟨_, rfl⟩
      rw [hV] at O2 W2
      have hkl : k < pvs'.length := (List.getElem?_eq_some_iff.1 hpv).1
      have hpv' : (pvs'.set k ((v : Int), (v : Int) + 1, pv.2.2))[k]? = some ((v : Int), (v : Int) + 1, pv.2.2) := List.getElem?_set_self hkl
      have hp' : (ps'.set k ((v : Int), (v : Int) + 1, l))[k]? = some ((v : Int), (v : Int) + 1, l) := List.getElem?_set_self (by have := O1.len; omega)
      obtain ⟨pv2, B2, m2, d2, l2, hq1, hq2, e0, e1, e2, fz2, hO2, hp2⟩ := O2.cells hlt
      rw [hpv'] at hq1
      injection hq1 with hq1
      subst hq1
      rw [hpv2] at hq2
      injection hq2 with r1 r2 r3
      subst r1 r2 r3
      rw [hp'] at hp2
      injection hp2 with hp2
      injection hp2 with _ hp2
      injection hp2 with _ hp2
      subst hp2
      have HB := Lib.hid (show ∀ b, B.map (·.block) = some b → lo ≤ b ∧ b < hi from fun b hb => HI.out b (.inr ⟨k, pv, hpv, by rw [hpv2]; cases B with
        | none => cases hb
        | some a => exact hb⟩))
      have HI2 : Hid (∀ b, InP (some ⟨g, 0, none⟩) (pvs'.set k ((v : Int), (v : Int) + 1, pv.2.2)) b → lo ≤ b ∧ b < hi) := fun b hb => HI.out b (inP_set (v := ((v : Int), (v : Int) + 1, pv.2.2)) hpv rfl hb)
      have HS2 : Hid (∀ zs : List Int, zs.length = m → SmallP n ((ps'.set k ((v : Int), (v : Int) + 1, l)).set k ((v : Int), (v : Int) + 1, zs))) := fun zs hz p hpm => by
        rw [List.set_set] at hpm
        rcases List.mem_or_eq_of_mem_set hpm with hpm | hpm
        · exact HS.out p hpm
        · subst hpm; show zs.length + n ≤ 1048576; omega
      have HPV := Lib.hid hpv'
      have HPP := Lib.hid hp'
      have HPV2 := Lib.hid hpv2
      have vW : IntKind.i64.wrap ((v : Int) + 1) = (v : Int) + 1 := IntWalk.i64_in _ (by omega)
      have vW2 : IntKind.i64.wrap ((v : Int) + 1 + 1) = ((v + 2 : Nat) : Int) := by rw [IntWalk.i64_in _ (by omega)]; omega
      have C := Lib.hid (markIntS_any hO2 (by omega) (K := v + 2) (by omega))
      have HV3 := Lib.hid hv3
      clear hpv hpv2 hp hpv' hp' e0 e1 hkl hO hv2 hv3
      go_wp2_with (fail)
      refine C.out.mono ?_
      rintro e w3 ⟨rfl, O3, G3⟩
      have O4 := O2.car HPV.out HPV2.out HPP.out O3 G3
      have W3 := HW.trans (W2.trans (Win.of_grown G3 HB.out))
      go_wp2
      go_roundw
      case rel => exact ⟨k + 1, v + 2 + m, _, _, by omega, HV3.out, by go_num, by go_num, O4, HS2.out _ (by simp [marksI]), HI2, W3⟩
      case measure => simp [intOf]; omega
    · have hltB : decide ((k : Int) < (n : Int)) = false := by simp; omega
      obtain rfl : k = n := by omega
      go_wp2
      go_ret
      exact ⟨⟨v, rfl⟩, HW⟩

theorem cells2O {w : World} {B : Nat} {x y : Value} {t : TypeId} (h : w.heap[B]? = some (.cells #[x, y] t (0, 0))) :
    w.cell? ⟨B, 0, none⟩ = some x ∧ w.cell? ⟨B, 1, none⟩ = some y :=
  ⟨(cell_of_row w B 0 _ t (0, 0) h).trans rfl, (cell_of_row w B 1 _ t (0, 0) h).trans rfl⟩
def marksO (K n : Nat) : List (Int × Int) := (List.range n).map fun i => (((K + 2 * i : Nat) : Int), ((K + 2 * i + 1 : Nat) : Int))
theorem marksO_len (K n : Nat) : (marksO K n).length = n := by simp [marksO]
theorem marksO_at {K n i : Nat} (h : i < n) : (marksO K n)[i]? = some (((K + 2 * i : Nat) : Int), ((K + 2 * i + 1 : Nat) : Int)) := by simp [marksO, h]
end Go.Proofs.YtiokieancjigeaaDoor
