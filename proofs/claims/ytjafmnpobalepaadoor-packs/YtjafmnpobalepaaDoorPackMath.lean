/-
  Packing, plain mathematics: plain steps, copies, what a packing is made of.
-/
import Derived.Test.YtjafmnpobalepaaDoorMath
namespace Go.Proofs.YtjafmnpobalepaaDoor

/-- Bytes as plain steps. -/
def plnF : Nat → List Int → List Int
  | 0, _ => []
  | f + 1, ms => if ms = [] then [] else (((min ms.length 128 : Nat) : Int) - 1) :: (ms.take (min ms.length 128) ++ plnF f (ms.drop (min ms.length 128)))
def pln (ms : List Int) : List Int := plnF ms.length ms

theorem plnF_more : ∀ (f g : Nat) (ms : List Int), ms.length ≤ f → f ≤ g → plnF g ms = plnF f ms := by
  intro f
  induction f with
  | zero =>
    intro g ms h _
    obtain rfl : ms = [] := List.eq_nil_of_length_eq_zero (by omega)
    cases g <;> rfl
  | succ f ih =>
    intro g ms h hg
    cases g with
    | zero => omega
    | succ g =>
      by_cases h0 : ms = []
      · simp [plnF, h0]
      · have h1 : 0 < ms.length := List.length_pos_iff.2 h0
        simp only [plnF, if_neg h0]
        rw [ih g _ (by simp only [List.length_drop]; omega) (by omega)]
theorem pln_nil : pln [] = [] := rfl
theorem pln_cons {ms : List Int} (h : ms ≠ []) : pln ms = (((min ms.length 128 : Nat) : Int) - 1) :: (ms.take (min ms.length 128) ++ pln (ms.drop (min ms.length 128))) := by
  have h1 : 0 < ms.length := List.length_pos_iff.2 h
  unfold pln
  obtain ⟨n, hn⟩ : ∃ n, ms.length = n + 1 := ⟨ms.length - 1, by omega⟩
  rw [hn]
  simp only [plnF, if_neg h]
  rw [plnF_more (ms.drop (min ms.length 128)).length n _ (Nat.le_refl _) (by simp only [List.length_drop]; omega), hn]
theorem pln_len2 : ∀ (n : Nat) (ms : List Int), ms.length ≤ n → (pln ms).length ≤ 2 * ms.length := by
  intro n
  induction n with
  | zero =>
    intro ms h
    obtain rfl : ms = [] := List.eq_nil_of_length_eq_zero (by omega)
    exact Nat.le_refl _
  | succ n ih =>
    intro ms h
    by_cases h0 : ms = []
    · subst h0; exact Nat.le_refl _
    · have h1 : 0 < ms.length := List.length_pos_iff.2 h0
      rw [pln_cons h0]
      have := ih (ms.drop (min ms.length 128)) (by simp only [List.length_drop]; omega)
      simp only [List.length_cons, List.length_append, List.length_take, List.length_drop] at this ⊢
      omega
/-- How long they are. -/
theorem pln_len : ∀ (n : Nat) (ms : List Int), ms.length ≤ n → (pln ms).length = ms.length + (ms.length + 127) / 128 := by
  intro n
  induction n with
  | zero =>
    intro ms h
    obtain rfl : ms = [] := List.eq_nil_of_length_eq_zero (by omega)
    rfl
  | succ n ih =>
    intro ms h
    by_cases h0 : ms = []
    · subst h0; rfl
    · have h1 : 0 < ms.length := List.length_pos_iff.2 h0
      rw [pln_cons h0]
      have := ih (ms.drop (min ms.length 128)) (by simp only [List.length_drop]; omega)
      simp only [List.length_cons, List.length_append, List.length_take, List.length_drop, this]
      omega

/-- A copy's three bytes. -/
def enc3 (dist count : Nat) : List Int := [(count : Int) + 125, (dist : Int) / 256, (dist : Int) % 256]
end Go.Proofs.YtjafmnpobalepaaDoor
