/-
  The same bytes again and again: the longest copy is found, and the packing is short: plain mathematics.
-/
import Derived.Test.YtjafmnpobalepaaDoorPackThm
namespace Go.Proofs.YtjafmnpobalepaaDoor

/-- A period. -/
def Per (zs : List Int) (per : Nat) : Prop := ∀ i, i + per < zs.length → zs.getD (i + per) 0 = zs.getD i 0

theorem wlit_per {zs : List Int} {per p : Nat} (hp : Per zs per) (h1 : per ≤ p) (h2 : p + 4 ≤ zs.length) : wlit zs (p - per) = wlit zs p := by
  have e : ∀ j, j < 4 → zs.getD (p - per + j) 0 = zs.getD (p + j) 0 := fun j hj => by
    rw [← hp (p - per + j) (by omega), show p - per + j + per = p + j from by omega]
  unfold wlit
  have e0 := e 0 (by omega)
  have e1 := e 1 (by omega)
  have e2 := e 2 (by omega)
  have e3 := e 3 (by omega)
  simp only [Nat.add_zero] at e0
  rw [e0, e1, e2, e3]

theorem rch_mark {p mark : Nat} (h1 : 1 ≤ mark) : rch p mark = p + 1 - mark := by
  unfold rch
  rw [if_neg (by omega)]

/-- The chain comes to the place a period ahead. -/
theorem chn_per (zs : List Int) (m per p : Nat) (hp : Per zs per) (hper : 1 ≤ per) (h1 : per ≤ p) (h2 : p + 4 ≤ zs.length) (hn : zs.length ≤ 20000) (hm : m = zs.length) :
    ∀ j, (∃ i, 1 ≤ i ∧ i ≤ j ∧ (chn (bkN zs m p) p (rch p (mrk zs p p)) i).1 = per) ∨
      (j ≤ (chn (bkN zs m p) p (rch p (mrk zs p p)) j).1 ∧ (chn (bkN zs m p) p (rch p (mrk zs p p)) j).1 < per ∧
        wlit zs (p - (chn (bkN zs m p) p (rch p (mrk zs p p)) j).1) = wlit zs p ∧
        (chn (bkN zs m p) p (rch p (mrk zs p p)) j).2 = rch (p - (chn (bkN zs m p) p (rch p (mrk zs p p)) j).1) (mrk zs (p - (chn (bkN zs m p) p (rch p (mrk zs p p)) j).1) p)) := by
  generalize hfirst : rch p (mrk zs p p) = first
  have hq := wlit_per hp h1 h2
  -- what a place within the period knows
  have key : ∀ x, p - per < x → x ≤ p → 1 ≤ rch x (mrk zs x p) ∧ x - rch x (mrk zs x p) ≥ p - per ∧ rch x (mrk zs x p) ≤ x ∧ wlit zs (x - rch x (mrk zs x p)) = wlit zs p := by
    intro x hx1 hx2
    have hmax := mrk_max zs x (p - per) p hx1 (by omega) hq
    have hle := mrk_le zs x p
    have hh := mrk_word zs x p (by omega)
    generalize mrk zs x p = mark at hmax hle hh ⊢
    rw [rch_mark (by omega)]
    refine ⟨by omega, by omega, by omega, ?_⟩
    rw [show x - (x + 1 - mark) = mark - 1 from by omega]
    exact hh
  intro j
  induction j with
  | zero =>
    refine Or.inr ⟨Nat.zero_le _, by simp only [chn]; omega, rfl, ?_⟩
    simp only [chn, Nat.sub_zero]
    exact hfirst.symm
  | succ j ih =>
    rcases ih with ⟨i, hi1, hi2, hi3⟩ | ⟨a1, a2, a3, a4⟩
    · exact Or.inl ⟨i, hi1, by omega, hi3⟩
    · have hs1 : (chn (bkN zs m p) p first (j + 1)).1 = (chn (bkN zs m p) p first j).1 + (chn (bkN zs m p) p first j).2 := rfl
      have hs2 : (chn (bkN zs m p) p first (j + 1)).2 = (bkN zs m p).getD ((p - ((chn (bkN zs m p) p first j).1 + (chn (bkN zs m p) p first j).2)) % 65536) 0 := rfl
      rw [hs2, hs1]
      generalize (chn (bkN zs m p) p first j).1 = far at a1 a2 a3 a4 hs1 ⊢
      generalize (chn (bkN zs m p) p first j).2 = next at a4 hs1 ⊢
      clear hs2
      obtain ⟨k1, k2, k3, k4⟩ := key (p - far) (by omega) (by omega)
      rw [← a4] at k1 k2 k3 k4
      by_cases hend : far + next = per
      · refine Or.inl ⟨j + 1, by omega, Nat.le_refl _, ?_⟩
        rw [hs1]; exact hend
      · refine Or.inr ⟨by omega, by omega, ?_, ?_⟩
        · rw [show p - (far + next) = p - far - next from by omega]; exact k4
        · have hlt : p - (far + next) < p := by omega
          have e : wlit zs (p - (far + next)) = wlit zs p := by rw [show p - (far + next) = p - far - next from by omega]; exact k4
          rw [bk_back zs m p (p - (far + next)) hlt (by omega) (by omega), mrk_same zs _ e]

/-- From a whole period on the longest copy is as long as can be. -/
theorem LngAt.per {zs : List Int} {m per p dist count : Nat} (h : LngAt zs m p dist count) (hp : Per zs per) (hper : 1 ≤ per) (hper2 : per ≤ 100) (h1 : per ≤ p) (h2 : p + 4 ≤ zs.length) (hn : zs.length ≤ 20000) (hm : m = zs.length) : count = min (zs.length - p) 130 := by
  have hc := h.count_le
  rcases h with ⟨_, hg, K, hK, hbest, hstop⟩ | ⟨h', _⟩
  · rcases chn_per zs m per p hp hper h1 h2 hn hm K with ⟨i, hi1, hi2, hi3⟩ | ⟨a1, a2, a3, a4⟩
    · have hb := hbest i hi1 hi2 (min (zs.length - p) 130) (Nat.le_refl _) (fun t ht => by
        rw [hi3, ← hp (p - per + t) (by omega), show p - per + t + per = p + t from by omega])
      omega
    · have hmax := mrk_max zs (p - (chn (bkN zs m p) p (rch p (mrk zs p p)) K).1) (p - per) p (by omega) (by omega) (wlit_per hp h1 h2)
      have hle := mrk_le zs (p - (chn (bkN zs m p) p (rch p (mrk zs p p)) K).1) p
      rw [rch_mark (Nat.le_trans (Nat.le_add_left 1 _) hmax)] at a4
      omega
  · omega

/-- How long a packing is on the way, of the same bytes again and again: C and three bytes for each whole copy. -/
def Short (n per C p pl len : Nat) : Prop :=
  pl ≤ p ∧ p ≤ n ∧
  ((p ≤ per ∧ len ≤ pl) ∨
   (per ≤ p ∧ pl = p ∧ ∃ k, len ≤ C + 3 * k ∧ (130 * k + per ≤ p ∨ (p = n ∧ 130 * k + per ≤ p + 126))) ∨
   (n < pl + 4 ∧ ∃ k, len ≤ C + 3 * k ∧ 130 * k + per ≤ pl) ∨
   (n < per + 4 ∧ per ≤ p ∧ len ≤ pl))

theorem Trace.short {zs : List Int} {m per C p pl : Nat} {out : List Int} (h : Trace zs m p pl out) (hp : Per zs per) (hper : 1 ≤ per) (hper2 : per ≤ 100) (hn : zs.length ≤ 20000) (hm : m = zs.length) (hC : (per = 1 ∧ C = 2) ∨ C = per + 3) :
    Short zs.length per C p pl out.length := by
  refine h (fun p pl out => Short zs.length per C p pl out.length) ?_ ?_ ?_
  · exact ⟨Nat.le_refl _, Nat.zero_le _, Or.inl ⟨Nat.zero_le _, Nat.le_refl _⟩⟩
  · rintro p pl out dist count ⟨a, b, c⟩ h1 h2 h3 h4
    refine ⟨by omega, by omega, ?_⟩
    have hlong : per ≤ p → zs.length < p + 4 := fun hpp => by
      rcases Nat.lt_or_ge zs.length (p + 4) with h' | h'
      · exact h'
      · have := h3.per hp hper hper2 hpp h' hn hm
        omega
    rcases c with ⟨c1, c2⟩ | ⟨c1, c2, k, c3, c4⟩ | ⟨c1, k, c2, c3⟩ | ⟨c1, c2, c3⟩
    · rcases Nat.lt_or_ge p per with h' | h'
      · exact Or.inl ⟨h', c2⟩
      · have := hlong h'
        exact Or.inr (Or.inr (Or.inr ⟨by omega, by omega, c2⟩))
    · have := hlong c1
      exact Or.inr (Or.inr (Or.inl ⟨by omega, k, c3, by omega⟩))
    · exact Or.inr (Or.inr (Or.inl ⟨c1, k, c2, c3⟩))
    · exact Or.inr (Or.inr (Or.inr ⟨c1, by omega, c3⟩))
  · rintro p pl out dist count ⟨a, b, c⟩ h1 h2 h3 h4
    obtain ⟨g1, g2, g3, g4, g5⟩ := h3.good h4
    have hml : ((zs.drop pl).take (p - pl)).length = p - pl := by rw [List.length_take, List.length_drop]; omega
    have hpl := pln_len _ ((zs.drop pl).take (p - pl)) (Nat.le_refl _)
    rw [hml] at hpl
    have hlen : (out ++ pln ((zs.drop pl).take (p - pl)) ++ enc3 dist count).length = out.length + (p - pl + (p - pl + 127) / 128) + 3 := by
      rw [List.length_append, List.length_append, hpl]; rfl
    rw [hlen]
    have hlong : per ≤ p → p + 4 ≤ zs.length → count = min (zs.length - p) 130 := fun hpp h' => h3.per hp hper hper2 hpp h' hn hm
    have hp4 : p + 4 ≤ zs.length := by omega
    refine ⟨Nat.le_refl _, g4, ?_⟩
    rcases c with ⟨c1, c2⟩ | ⟨c1, c2, k, c3, c4⟩ | ⟨c1, k, c2, c3⟩ | ⟨c1, c2, c3⟩
    · rcases Nat.lt_or_ge p per with h' | h'
      · rcases Nat.lt_or_ge per (p + count) with h'' | h''
        · exact Or.inr (Or.inl ⟨by omega, rfl, 0, by omega, Or.inl (by omega)⟩)
        · exact Or.inl ⟨h'', by omega⟩
      · have := hlong h' hp4
        exact Or.inr (Or.inl ⟨by omega, rfl, 1, by omega, by omega⟩)
    · have := hlong c1 hp4
      exact Or.inr (Or.inl ⟨by omega, rfl, k + 1, by omega, by omega⟩)
    · omega
    · omega

/-- The same bytes again and again have short packings. -/
theorem PackRes.short {zs res : List Int} {per : Nat} (h : PackRes zs res) (hp : Per zs per) (hper : 1 ≤ per) (hper2 : per ≤ 100) (hn : zs.length ≤ 20000) :
    (per = 1 → res.length ≤ zs.length / 40 + 8) ∧ (200 ≤ zs.length → res.length ≤ 110 + zs.length / 30) := by
  obtain ⟨pl, out, ht, hpl, rfl⟩ := h
  rw [show min zs.length 65536 = zs.length from by omega] at ht
  have hlen := pln_len _ (zs.drop pl) (Nat.le_refl _)
  rw [List.length_drop] at hlen
  rw [List.length_append, hlen]
  refine ⟨fun h1 => ?_, fun h2 => ?_⟩
  · obtain ⟨a, b, c⟩ := ht.short hp hper hper2 hn rfl (Or.inl ⟨h1, rfl⟩)
    rcases c with ⟨c1, c2⟩ | ⟨c1, c2, k, c3, c4⟩ | ⟨c1, k, c2, c3⟩ | ⟨c1, c2, c3⟩ <;> omega
  · obtain ⟨a, b, c⟩ := ht.short hp hper hper2 hn rfl (Or.inr rfl)
    rcases c with ⟨c1, c2⟩ | ⟨c1, c2, k, c3, c4⟩ | ⟨c1, k, c2, c3⟩ | ⟨c1, c2, c3⟩ <;> omega
end Go.Proofs.YtjafmnpobalepaaDoor
