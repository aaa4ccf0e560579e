/-
  Words of four bytes as keys of a map; of each word the last place that was noted and not forgotten.
-/
import Derived.Test.YtjafmnpobalepaaDoorOwn
import Derived.Maps.OwnSet
import Derived.DeepKeys4
import Derived.WideKeyArr
import Derived.KernelRfl
namespace Go.Proofs.YtjafmnpobalepaaDoor
open Go.RowKit Go.Maps

theorem word_laidOut : laidOutB Tryd.prog = true := by kernel_rfl
theorem word_row : (84 : TypeId) < Tryd.prog.types.size := of_decide_eq_true (by kernel_rfl)
theorem word_wide : (match Tryd.prog.underlying 84 with | some (.array _ _) | some (.struct _) => true | _ => false) = true := by rw [Tryd.underlying84]
theorem word_keyAt : Tryd.prog.keyTypeAt 2 84 = true := by kernel_rfl
set_option maxRecDepth 100000 in
theorem word_law : Keyed Tryd.prog 84 := Keyed.of_law (deep_law_laid word_laidOut (m := 2) (by omega) word_row word_keyAt word_wide)
theorem word_arr : Go.WideMaps.ArrKey Tryd.prog 84 5 4 := ⟨Tryd.underlying84, by kernel_rfl, by kernel_rfl, by kernel_rfl⟩
theorem word_some : ∃ m, Tryd.prog.types.size = m + 1 := Nat.exists_eq_add_one_of_ne_zero (fun h => by have := word_row; rw [h] at this; exact absurd this (Nat.not_lt_zero _))

theorem keyOf_four {P : Program} {k e : TypeId} {q : IntKind} (A : Go.WideMaps.ArrKey P k e 4) (he : P.underlying e = some (.int q)) (hsz : ∃ m, P.types.size = m + 1) {a b c d : Int} (wa : (Lit.int q a).wf = true) (wb : (Lit.int q b).wf = true) (wc : (Lit.int q c).wf = true) (wd : (Lit.int q d).wf = true) :
    keyOf P k (.agg #[.int q a, .int q b, .int q c, .int q d]) = some (.string (keyBytes [.int q a, .int q b, .int q c, .int q d])) := by
  have hkt := A.keyType hsz
  obtain ⟨m, hm⟩ := hsz
  unfold keyOf
  simp only [A.hu]
  rw [if_pos (by simp [hkt, Value.formed, A.hu, A.size]), hm]
  unfold Program.keyLits
  simp only [A.hu, Value.cells]
  rw [if_pos (by rw [A.size]; rfl), show List.range 4 = [0, 1, 2, 3] from rfl, List.mapM_cons, List.mapM_cons, List.mapM_cons, List.mapM_cons, List.mapM_nil]
  simp [A.one, Program.keyLits, he, wa, wb, wc, wd]

/-- The word at a place: its value, and the key that it reads as. -/
def wval (zs : List Int) (p : Nat) : Value := .agg #[.int .u8 (zs.getD p 0), .int .u8 (zs.getD (p + 1) 0), .int .u8 (zs.getD (p + 2) 0), .int .u8 (zs.getD (p + 3) 0)]
def wlit (zs : List Int) (p : Nat) : Lit := .string (keyBytes [.int .u8 (zs.getD p 0), .int .u8 (zs.getD (p + 1) 0), .int .u8 (zs.getD (p + 2) 0), .int .u8 (zs.getD (p + 3) 0)])

theorem wval_key {zs : List Int} (hby : Byt zs) (p : Nat) : keyOf Tryd.prog 84 (wval zs p) = some (wlit zs p) :=
  keyOf_four word_arr Tryd.underlying5 word_some (WalkArith.wf_u8 (hby.getD _)) (WalkArith.wf_u8 (hby.getD _)) (WalkArith.wf_u8 (hby.getD _)) (WalkArith.wf_u8 (hby.getD _))
theorem wlit_key (zs : List Int) (p : Nat) : WideAt.IsKeyLit (wlit zs p) := trivial

theorem word_same (zs : List Int) (k p : Nat) : (wlit zs k).sameKey (wlit zs p) = true ↔ wlit zs k = wlit zs p :=
  ⟨WideAt.sameKey_eq, fun h => by rw [h]; exact WideAt.sameKey_self (wlit_key zs p)⟩

/-- The place k is noted: of the word at p the last place noted and 1; 0 is none. -/
def mrkP (zs : List Int) (k p x : Nat) : Nat := if (wlit zs k).sameKey (wlit zs p) = true then k + 1 else x
/-- The first k places are noted; those that a copy can't reach from the place k are forgotten. -/
def mrk (zs : List Int) : Nat → Nat → Nat
  | 0, _ => 0
  | k + 1, p => if mrkP zs k p (mrk zs k p) + 65535 = k + 1 then 0 else mrkP zs k p (mrk zs k p)

theorem mrkP_pos {zs : List Int} {k p x : Nat} (h : wlit zs k = wlit zs p) : mrkP zs k p x = k + 1 := if_pos ((word_same zs k p).2 h)
theorem mrkP_neg {zs : List Int} {k p x : Nat} (h : wlit zs k ≠ wlit zs p) : mrkP zs k p x = x := if_neg (fun e => h ((word_same zs k p).1 e))
theorem mrk_none {zs : List Int} {k p : Nat} (h : mrkP zs k p (mrk zs k p) + 65535 = k + 1) : mrk zs (k + 1) p = 0 := by
  rw [mrk, if_pos h]
theorem mrk_kept {zs : List Int} {k p : Nat} (h : mrkP zs k p (mrk zs k p) + 65535 ≠ k + 1) : mrk zs (k + 1) p = mrkP zs k p (mrk zs k p) := by
  rw [mrk, if_neg h]
theorem mrkP_congr {zs : List Int} {k p q x : Nat} (h : wlit zs p = wlit zs q) : mrkP zs k p x = mrkP zs k q x := by
  by_cases he : wlit zs k = wlit zs p
  · rw [mrkP_pos he, mrkP_pos (he.trans h)]
  · rw [mrkP_neg he, mrkP_neg (fun e => he (e.trans h.symm))]
theorem mrkP_le {zs : List Int} {k p x : Nat} (hx : x ≤ k) : mrkP zs k p x ≤ k + 1 := by
  unfold mrkP
  split <;> omega
theorem mrk_le (zs : List Int) (k p : Nat) : mrk zs k p ≤ k := by
  induction k with
  | zero => exact Nat.le_refl _
  | succ k ih =>
    simp only [mrk]
    split
    · omega
    · exact mrkP_le ih
theorem mrk_near (zs : List Int) (k p : Nat) (h0 : mrk zs k p ≠ 0) : k + 1 ≤ mrk zs k p + 65535 := by
  induction k with
  | zero => exact absurd rfl h0
  | succ k ih =>
    simp only [mrk] at h0 ⊢
    split at h0
    · exact absurd rfl h0
    · rename_i hne
      rw [if_neg hne]
      by_cases he : wlit zs k = wlit zs p
      · rw [mrkP_pos he]; omega
      · rw [mrkP_neg he] at hne h0 ⊢
        have := ih h0
        omega
theorem mrkP_word {zs : List Int} {k p x : Nat} (hx : x ≠ 0 → wlit zs (x - 1) = wlit zs p) (h0 : mrkP zs k p x ≠ 0) : wlit zs (mrkP zs k p x - 1) = wlit zs p := by
  by_cases he : wlit zs k = wlit zs p
  · rw [mrkP_pos he, Nat.add_sub_cancel]; exact he
  · rw [mrkP_neg he] at h0 ⊢; exact hx h0
theorem mrk_word (zs : List Int) (k p : Nat) : mrk zs k p ≠ 0 → wlit zs (mrk zs k p - 1) = wlit zs p := by
  induction k with
  | zero => intro h0; exact absurd rfl h0
  | succ k ih =>
    intro h0
    simp only [mrk] at h0 ⊢
    split at h0
    · exact absurd rfl h0
    · rename_i hne
      rw [if_neg hne]
      exact mrkP_word ih h0
theorem mrk_same (zs : List Int) (k : Nat) {p q : Nat} (h : wlit zs p = wlit zs q) : mrk zs k p = mrk zs k q := by
  induction k with
  | zero => rfl
  | succ k ih => simp only [mrk, ih, mrkP_congr h]
theorem mrkP_same (zs : List Int) (k : Nat) {p q : Nat} (h : wlit zs p = wlit zs q) : mrkP zs k p (mrk zs k p) = mrkP zs k q (mrk zs k q) := by
  rw [mrk_same zs k h, mrkP_congr h]
/-- The mark of a word is behind every place of that word that is near enough. -/
theorem mrk_max (zs : List Int) (k q p : Nat) (hq : q < k) (hn : k ≤ q + 65535) (hh : wlit zs q = wlit zs p) : q + 1 ≤ mrk zs k p := by
  induction k with
  | zero => omega
  | succ k ih =>
    have h1 : q + 1 ≤ mrkP zs k p (mrk zs k p) := by
      by_cases he : wlit zs k = wlit zs p
      · rw [mrkP_pos he]; omega
      · rw [mrkP_neg he]
        refine ih ?_ (by omega)
        rcases Nat.lt_or_ge q k with h' | h'
        · exact h'
        · obtain rfl : q = k := by omega
          exact absurd hh he
    simp only [mrk]
    rw [if_neg (by omega)]
    exact h1

/-- The map has of each word its mark. -/
def MpIs (zs : List Int) (f : Nat → Nat) (D : DataW Unit) : Prop :=
  ∀ p, p + 4 ≤ zs.length → (f p = 0 → Maps.has D (wlit zs p) = false) ∧ (∀ x, f p = x + 1 → Maps.has D (wlit zs p) = true ∧ ∀ z, D.atKey (wlit zs p) z = .lit (.int .i64 ((x : Nat) : Int)))
def MapIs (zs : List Int) (k : Nat) (D : DataW Unit) : Prop := IsMap D ∧ MpIs zs (mrk zs k) D
/-- .. behind the note, ahead of the forgetting. -/
def MapIsP (zs : List Int) (k : Nat) (D : DataW Unit) : Prop := IsMap D ∧ MpIs zs (fun p => mrkP zs k p (mrk zs k p)) D

theorem MapIs.start (zs : List Int) : MapIs zs 0 (.map []) := ⟨isMap_empty, fun p _ => ⟨fun _ => rfl, fun x hx => by simp [mrk] at hx⟩⟩

theorem MapIs.put {zs : List Int} {k : Nat} {D : DataW Unit} (h : MapIs zs k D) : MapIsP zs k (D.put (wlit zs k) (.lit (.int .i64 ((k : Nat) : Int)))) := by
  refine ⟨h.1.put _ _, fun p hp => ?_⟩
  by_cases he : wlit zs k = wlit zs p
  · simp only [mrkP_pos he]
    refine ⟨fun h0 => by omega, fun x hx => ?_⟩
    obtain rfl : x = k := by omega
    rw [← he]
    exact ⟨has_put_same h.1 (wlit_key _ _) _, fun z => atKey_put_same h.1 (wlit_key _ _) _ _⟩
  · simp only [mrkP_neg he]
    obtain ⟨a, b⟩ := h.2 p hp
    rw [has_put_other (fun e => he e.symm)]
    refine ⟨a, fun x hx => ⟨(b x hx).1, fun z => ?_⟩⟩
    rw [atKey_put_other (fun e => he e.symm)]
    exact (b x hx).2 z

/-- Nothing is to be forgotten. -/
theorem MapIsP.keep {zs : List Int} {k : Nat} {D : DataW Unit} (h : MapIsP zs k D) (hn : ∀ p, p + 4 ≤ zs.length → mrkP zs k p (mrk zs k p) ≠ 0 → mrkP zs k p (mrk zs k p) + 65535 ≠ k + 1) : MapIs zs (k + 1) D := by
  refine ⟨h.1, fun p hp => ?_⟩
  obtain ⟨a, b⟩ := h.2 p hp
  by_cases h0 : mrkP zs k p (mrk zs k p) = 0
  · have e : mrk zs (k + 1) p = 0 := by simp only [mrk, h0]; split <;> rfl
    rw [e]
    exact ⟨fun _ => a h0, fun x hx => by omega⟩
  · have e : mrk zs (k + 1) p = mrkP zs k p (mrk zs k p) := by simp only [mrk]; rw [if_neg (hn p hp h0)]
    rw [e]
    exact ⟨a, b⟩
theorem far_yes {x f k : Nat} (hf : f + 65536 = k + 1) (hx : x = f + 1) : x + 65535 = k + 1 := by omega
theorem far_place {x f k : Nat} (hf : f + 65536 = k + 1) (hx : x + 65535 = k + 1) : x = f + 1 := by omega
theorem near_no {x k : Nat} (h0 : x ≠ 0) (hk : k < 65535) : x + 65535 ≠ k + 1 := by omega
theorem MapIsP.near {zs : List Int} {k : Nat} {D : DataW Unit} (h : MapIsP zs k D) (hk : k < 65535) : MapIs zs (k + 1) D :=
  h.keep (fun _ _ h0 => near_no h0 hk)
/-- The place is the last one of its word: it is forgotten. -/
theorem MapIsP.drop {zs : List Int} {k f : Nat} {D : DataW Unit} (h : MapIsP zs k D) (hf : f + 65536 = k + 1) (he : mrkP zs k f (mrk zs k f) = f + 1) : MapIs zs (k + 1) (D.del (wlit zs f)) := by
  refine ⟨h.1.del _, fun p hp => ?_⟩
  obtain ⟨a, b⟩ := h.2 p hp
  by_cases hw : wlit zs p = wlit zs f
  · have e1 : mrkP zs k p (mrk zs k p) = f + 1 := by rw [mrkP_same zs k hw]; exact he
    have e : mrk zs (k + 1) p = 0 := mrk_none (far_yes hf e1)
    rw [e, hw]
    exact ⟨fun _ => has_del_same, fun x hx => by omega⟩
  · have e : mrk zs (k + 1) p = mrkP zs k p (mrk zs k p) := mrk_kept (fun h5 => by
        have e1 : mrkP zs k p (mrk zs k p) = f + 1 := far_place hf h5
        have := mrkP_word (mrk_word zs k p) (by rw [e1]; exact Nat.succ_ne_zero f)
        rw [e1, Nat.add_sub_cancel] at this
        exact absurd this.symm hw)
    rw [e, has_del_other hw]
    refine ⟨a, fun x hx => ⟨(b x hx).1, fun z => ?_⟩⟩
    rw [atKey_del_other hw]
    exact (b x hx).2 z
/-- Another place of the word was noted since, or none is there. -/
theorem MapIsP.stay {zs : List Int} {k f : Nat} {D : DataW Unit} (h : MapIsP zs k D) (hf : f + 65536 = k + 1) (he : mrkP zs k f (mrk zs k f) ≠ f + 1) : MapIs zs (k + 1) D := by
  refine h.keep fun p _ h0 h5 => ?_
  have e1 : mrkP zs k p (mrk zs k p) = f + 1 := far_place hf h5
  have := mrkP_word (mrk_word zs k p) h0
  rw [e1, Nat.add_sub_cancel] at this
  rw [mrkP_same zs k this] at he
  exact he e1

/-- The distance that reach tells. -/
def rch (p mark : Nat) : Nat := if mark = 0 then 0 else p + 1 - mark
end Go.Proofs.YtjafmnpobalepaaDoor
