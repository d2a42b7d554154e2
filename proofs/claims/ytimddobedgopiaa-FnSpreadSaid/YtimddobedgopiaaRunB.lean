/-
  RunBridge of the model: what is proved here is what it returns, each slice in memory of its own, and that it writes nothing that was there. Condition: lengths up to 2^24.
-/
import Derived.Test.YtimddobedgopiaaHops
import Derived.Test.YtimddobedgopiaaListI
namespace Go.Proofs.Ytimddobedgopiaa
open Go.RowKit

/-- The slice at T is none of those of a list. -/
def Off (T : Option Addr) (vs : List Value) : Prop := ∀ v ∈ vs, ∀ b, v.ownBlock = some b → ∀ ad, T = some ad → ad.block ≠ b
theorem off_nil (T : Option Addr) : Off T [] := fun v hv => by cases hv
theorem Off.snoc {T X : Option Addr} {vs : List Value} {m d : Nat} (h : Off T vs) (hx : ∀ a1 a2, T = some a1 → X = some a2 → a1.block ≠ a2.block) : Off T (vs ++ [.slice X m d]) := fun v hv b hb ad ha => by
  rcases List.mem_append.1 hv with hv | hv
  · exact h v hv b hb ad ha
  · rw [List.mem_singleton.1 hv] at hb
    cases X with
    | none => cases hb
    | some a2 =>
      have : a2.block = b := by simpa [Value.ownBlock] using hb
      rw [← this]; exact hx ad a2 ha rfl
/-- Slices of two kinds of elements never lie in one block. -/
theorem own_apart {w : World} {lo lo' : Nat} {e e' : TypeId} {A B : Option Addr} {n c m d : Nat} {xs ys : List Value} (h : Own w lo e A n c xs) (k : Own w lo' e' B m d ys) (he : e ≠ e') : ∀ a, A = some a → some a.block ≠ B.map (·.block) := by
  intro a ha hb
  subst ha
  cases B with
  | none => cases hb
  | some b =>
    have hbb : a.block = b.block := by simpa using hb
    rcases h.2 with ⟨hv, _⟩ | ⟨g, cap, cur, hv, _, hgg, _⟩
    · cases hv
    · rcases k.2 with ⟨kv, _⟩ | ⟨g', cap', cur', kv, _, kgg, _⟩
      · cases kv
      · injection hv with hv; injection hv with hv
        injection kv with kv; injection kv with kv
        have h1 : g = g' := by rw [hv, kv] at hbb; exact hbb
        subst h1
        rw [hgg] at kgg
        injection kgg with kk
        injection kk with _ kk
        exact he kk
/-- What RunBridge returns. -/
def RunRes (w w' : World) (e : Ending) (ports : Int) (hs : List Hop3) : Prop :=
  ∃ A1 n1 c1 A2 n2 c2 vs, e = .returned (.tuple #[.slice A1 n1 c1, .slice A2 n2 c2, .bool (runB ports hs)]) ∧ Own w' w.heap.size 3 A1 n1 c1 (ints .i64 (runT ports hs)) ∧ OwnVI w' w.heap.size A2 n2 c2 vs (runO ports hs) ∧ Off A1 vs ∧ Below w.heap.size w w'
theorem take_snoc {hs : List Hop3} {k : Nat} {x : Hop3} (h : hs[k]? = some x) : hs.take (k + 1) = hs.take k ++ [x] := by rw [List.take_add_one, h]; rfl
theorem runTo_none {ports : Int} {t : List Int} {hs : List Hop3} {k : Nat} (h : runTo ports t (hs.take k) = none) : runTo ports t hs = none := by
  have e : hs = hs.take k ++ hs.drop k := (List.take_append_drop k hs).symm
  rw [e]
  generalize hs.take k = us at *
  generalize hs.drop k = bs at *
  clear e
  induction bs generalizing us with
  | nil => rwa [List.append_nil]
  | cons b bs ih =>
    have : us ++ b :: bs = (us ++ [b]) ++ bs := by simp
    rw [this]
    apply ih
    rw [runTo_snoc, h]; rfl

end Go.Proofs.Ytimddobedgopiaa
