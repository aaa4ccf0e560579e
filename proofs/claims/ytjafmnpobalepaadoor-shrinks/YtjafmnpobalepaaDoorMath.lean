/-
  The plain mathematics of packing: no Go. Bytes are integers from 0 to 255.
-/
namespace Go.Proofs.YtjafmnpobalepaaDoor

/-- Bytes. -/
def Byt (zs : List Int) : Prop := ∀ z, z ∈ zs → 0 ≤ z ∧ z ≤ 255

theorem Byt.nil : Byt [] := fun _ h => by cases h
theorem Byt.app {a b : List Int} (ha : Byt a) (hb : Byt b) : Byt (a ++ b) := fun z hz => by
  rcases List.mem_append.1 hz with h | h
  · exact ha z h
  · exact hb z h
theorem Byt.drop {a : List Int} (ha : Byt a) (k : Nat) : Byt (a.drop k) := fun z hz => ha z (List.mem_of_mem_drop hz)
theorem Byt.take {a : List Int} (ha : Byt a) (k : Nat) : Byt (a.take k) := fun z hz => ha z (List.mem_of_mem_take hz)
theorem Byt.getD {a : List Int} (ha : Byt a) (k : Nat) : 0 ≤ a.getD k 0 ∧ a.getD k 0 ≤ 255 := by
  by_cases h : k < a.length
  · rw [List.getD_eq_getElem?_getD, List.getElem?_eq_getElem h]; exact ha _ (List.getElem_mem h)
  · rw [List.getD_eq_getElem?_getD, List.getElem?_eq_none (by omega)]; exact ⟨by decide, by decide⟩

/-- So many bytes more, each that which stands so far ahead. -/
def cpy (far : Nat) : Nat → List Int → List Int
  | 0, out => out
  | n + 1, out => cpy far n out ++ [(cpy far n out).getD ((cpy far n out).length - far) 0]

theorem cpy_zero (far : Nat) (out : List Int) : cpy far 0 out = out := rfl
theorem cpy_succ (far n : Nat) (out : List Int) : cpy far (n + 1) out = cpy far n out ++ [(cpy far n out).getD ((cpy far n out).length - far) 0] := rfl
theorem cpy_length (far n : Nat) (out : List Int) : (cpy far n out).length = out.length + n := by
  induction n with
  | zero => rfl
  | succ n ih => rw [cpy_succ, List.length_append, ih]; simp; omega
theorem Byt.cpy {a : List Int} (ha : Byt a) (far n : Nat) : Byt (cpy far n a) := by
  induction n with
  | zero => exact ha
  | succ n ih => rw [cpy_succ]; exact ih.app (fun z hz => by simp only [List.mem_singleton] at hz; subst hz; exact ih.getD _)

/-- What Unpack answers: an error's number, or bytes. -/
abbrev Res := Sum Int (List Int)

/-- The document's Unpack: of what is left, with what was put out; so many steps at the most. -/
def unpF (most : Int) : Nat → List Int → List Int → Res
  | 0, _, out => .inr out
  | _ + 1, [], out => .inr out
  | f + 1, t :: r, out =>
    if t < 128 then
      if (r.length : Int) < t + 1 then .inl 1
      else if most < (out.length : Int) + (t + 1) then .inl 2
      else unpF most f (r.drop (t + 1).toNat) (out ++ r.take (t + 1).toNat)
    else if r.length < 2 then .inl 1
    else if r.getD 0 0 * 256 + r.getD 1 0 = 0 ∨ (out.length : Int) < r.getD 0 0 * 256 + r.getD 1 0 then .inl 1
    else if most < (out.length : Int) + (t - 125) then .inl 2
    else unpF most f (r.drop 2) (cpy (r.getD 0 0 * 256 + r.getD 1 0).toNat (t - 125).toNat out)

/-- The document's Unpack. -/
def unp (most : Int) (rest out : List Int) : Res := unpF most rest.length rest out

/-- More steps than there are bytes change nothing. -/
theorem unpF_more (most : Int) : ∀ (f g : Nat) (rest out : List Int), rest.length ≤ f → f ≤ g → unpF most g rest out = unpF most f rest out := by
  intro f
  induction f with
  | zero =>
    intro g rest out h _
    obtain rfl : rest = [] := List.eq_nil_of_length_eq_zero (by omega)
    cases g <;> rfl
  | succ f ih =>
    intro g rest out h hg
    cases g with
    | zero => omega
    | succ g =>
      cases rest with
      | nil => rfl
      | cons t r =>
        simp only [List.length_cons] at h
        have e1 := fun o => ih g (r.drop (t + 1).toNat) o (by simp only [List.length_drop]; omega) (by omega)
        have e2 := fun o => ih g (r.drop 2) o (by simp only [List.length_drop]; omega) (by omega)
        simp only [unpF, e1, e2]

theorem unp_cons (most t : Int) (r out : List Int) : unp most (t :: r) out =
    if t < 128 then
      if (r.length : Int) < t + 1 then .inl 1
      else if most < (out.length : Int) + (t + 1) then .inl 2
      else unp most (r.drop (t + 1).toNat) (out ++ r.take (t + 1).toNat)
    else if r.length < 2 then .inl 1
    else if r.getD 0 0 * 256 + r.getD 1 0 = 0 ∨ (out.length : Int) < r.getD 0 0 * 256 + r.getD 1 0 then .inl 1
    else if most < (out.length : Int) + (t - 125) then .inl 2
    else unp most (r.drop 2) (cpy (r.getD 0 0 * 256 + r.getD 1 0).toNat (t - 125).toNat out) := by
  have e1 := fun o => unpF_more most (r.drop (t + 1).toNat).length r.length (r.drop (t + 1).toNat) o (Nat.le_refl _) (by simp only [List.length_drop]; omega)
  have e2 := fun o => unpF_more most (r.drop 2).length r.length (r.drop 2) o (Nat.le_refl _) (by simp only [List.length_drop]; omega)
  simp only [unp, List.length_cons, unpF, e1, e2]

theorem unp_nil (most : Int) (out : List Int) : unp most [] out = .inr out := rfl
theorem unp_p1 (most t : Int) (r out : List Int) (ht : t < 128) (h : (r.length : Int) < t + 1) : unp most (t :: r) out = .inl 1 := by
  rw [unp_cons]; simp [ht, h]
theorem unp_p2 (most t : Int) (r out : List Int) (ht : t < 128) (h : ¬ (r.length : Int) < t + 1) (h2 : most < (out.length : Int) + (t + 1)) : unp most (t :: r) out = .inl 2 := by
  rw [unp_cons]; simp [ht, h, h2]
theorem unp_p3 (most t : Int) (r out : List Int) (ht : t < 128) (h : ¬ (r.length : Int) < t + 1) (h2 : ¬ most < (out.length : Int) + (t + 1)) :
    unp most (t :: r) out = unp most (r.drop (t + 1).toNat) (out ++ r.take (t + 1).toNat) := by
  rw [unp_cons]; simp [ht, h, h2]
theorem unp_c1 (most t : Int) (r out : List Int) (ht : ¬ t < 128) (h : r.length < 2) : unp most (t :: r) out = .inl 1 := by
  rw [unp_cons]; simp [ht, h]
theorem unp_c2 (most t : Int) (r out : List Int) (ht : ¬ t < 128) (h : ¬ r.length < 2) (h2 : r.getD 0 0 * 256 + r.getD 1 0 = 0 ∨ (out.length : Int) < r.getD 0 0 * 256 + r.getD 1 0) : unp most (t :: r) out = .inl 1 := by
  rw [unp_cons, if_neg ht, if_neg h, if_pos h2]
theorem unp_c3 (most t : Int) (r out : List Int) (ht : ¬ t < 128) (h : ¬ r.length < 2) (h2 : ¬ (r.getD 0 0 * 256 + r.getD 1 0 = 0 ∨ (out.length : Int) < r.getD 0 0 * 256 + r.getD 1 0)) (h3 : most < (out.length : Int) + (t - 125)) : unp most (t :: r) out = .inl 2 := by
  rw [unp_cons, if_neg ht, if_neg h, if_neg h2, if_pos h3]
theorem unp_c4 (most t : Int) (r out : List Int) (ht : ¬ t < 128) (h : ¬ r.length < 2) (h2 : ¬ (r.getD 0 0 * 256 + r.getD 1 0 = 0 ∨ (out.length : Int) < r.getD 0 0 * 256 + r.getD 1 0)) (h3 : ¬ most < (out.length : Int) + (t - 125)) :
    unp most (t :: r) out = unp most (r.drop 2) (cpy (r.getD 0 0 * 256 + r.getD 1 0).toNat (t - 125).toNat out) := by
  rw [unp_cons, if_neg ht, if_neg h, if_neg h2, if_neg h3]

end Go.Proofs.YtjafmnpobalepaaDoor
