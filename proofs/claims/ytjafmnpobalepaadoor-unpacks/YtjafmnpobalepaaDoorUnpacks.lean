/-
  The law Unpacks: its walk.
-/
import Derived.Test.YtjafmnpobalepaaDoorAs
import Derived.Test.YtjafmnpobalepaaDoorUnp
import Derived.Test.YtjafmnpobalepaaDoorRef
import Derived.Test.YtjafmnpobalepaaDoorHelp
namespace Go.Proofs.YtjafmnpobalepaaDoor
open Go.RowKit

/-- The variable errors.errorType holds the handle of error. -/
def ET (w : World) : Prop := w.cell? ⟨0, 0, none⟩ = some (.iface 66 (.agg #[.pointer (some ⟨1, 25, none⟩)]))

theorem ET.lt {w : World} (h : ET w) : 0 < w.heap.size := World.block_lt_of_cell? w _ h
theorem ET.below {w w' : World} {B : Nat} (h : ET w) (hB : 0 < B) (hb : Below B w w') : ET w' := by
  unfold ET; rw [hb.cell (p := ⟨0, 0, none⟩) hB]; exact h

theorem Own.spoilt {w w' : World} {base g : Nat} {v : Value} {out : List Int} (h : Own w base v out) (hg : w.grownBy w' (some g)) (hlt : g < base) : Own w' base v out := by
  refine World.ownsRow.kept h hg ?_
  cases hv : v.ownBlock with
  | none => exact Or.inl rfl
  | some k => exact Or.inr (fun e => by cases e; have := Own.blk h g hv; omega)

theorem Own.drewN {w : World} {base n : Nat} {v : Value} {out : List Int} (h : Own w base v out) : Own (w.drewN n) base v out := h
theorem Room.drewN {w : World} {g n : Nat} {zs : List Int} (h : Room w g zs) : Room (w.drewN n) g zs := h
theorem Sl.drewN {w : World} {ao : Option Addr} {c n : Nat} {zs : List Int} (h : Sl w ao c zs) : Sl (w.drewN n) ao c zs := h
theorem below_size {w w' : World} (h : Below w.heap.size w w') : w.heap.size ≤ w'.heap.size := h.size

theorem unpacks_big (ao : Option Addr) (n c : Nat) (most : Int) (w : World) (h : ¬ n ≤ 1048576) (hn : n ≤ maxLen) :
    Calls Tryd.prog 3 #[.slice ao n c, .int .i64 most] w fun e w' => e = .returned (.bool true) ∧ Below w.heap.size w w' := by
  unfold maxLen at hn
  have h' : (1048576 : Int) < (n : Int) := by omega
  have hd : decide ((1048576 : Int) < (n : Int)) = true := by simp; omega
  go_enter Tryd.func3, Tryd.ntmps3
  go_wp2
  go_ret
  exact ⟨rfl, Below.refl _ _⟩

theorem unpacks_most (ao : Option Addr) (n c : Nat) (most : Int) (w : World) (h : n ≤ 1048576) (hm : ¬ most ≤ 1048576) :
    Calls Tryd.prog 3 #[.slice ao n c, .int .i64 most] w fun e w' => e = .returned (.bool true) ∧ Below w.heap.size w w' := by
  have hd : decide ((1048576 : Int) < (n : Int)) = false := by simp; omega
  have hd2 : decide ((1048576 : Int) < most) = true := by simp; omega
  go_enter Tryd.func3, Tryd.ntmps3
  go_wp2
  go_ret
  exact ⟨rfl, Below.refl _ _⟩

theorem ref_any (ao : Option Addr) (c : Nat) (zs : List Int) (most : Int) (w : World) (hs : Sl w ao c zs) (hby : Byt zs) (hlen : zs.length ≤ 4194304) (hm : most ≤ 1048576) (hmin : -9223372036854775808 ≤ most) :
    Calls Tryd.prog 11 #[.slice ao zs.length c, .int .i64 most] w fun e w' => ∃ pv ev, e = .returned (.tuple #[pv, ev]) ∧ RefOuts w' w.heap.size (unp most zs []) pv ev ∧ Below w.heap.size w w' := by
  by_cases h0 : zs = []
  · subst h0
    rw [unp_nil]
    exact ref_nil ao c most w
  · obtain ⟨b, off, rfl, hc⟩ := hs.2 h0
    exact ref_some b off c zs most w hc hby hlen hm hmin (World.block_lt_of_cell? w _ (hc 0 (by cases zs; exact absurd rfl h0; simp)))

set_option maxHeartbeats 2000000 in
theorem unpacks_ok (ao : Option Addr) (c : Nat) (zs out : List Int) (most : Int) (w : World) (hs : Sl w ao c zs) (hby : Byt zs) (hlen : zs.length ≤ 1048576) (hm : most ≤ 1048576) (hmin : -9223372036854775808 ≤ most) (hR : unp most zs [] = .inr out) :
    Calls Tryd.prog 3 #[.slice ao zs.length c, .int .i64 most] w fun e w' => e = .returned (.bool true) ∧ Below w.heap.size w w' := by
  have hd : decide ((1048576 : Int) < (zs.length : Int)) = false := by simp; omega
  have hd2 : decide ((1048576 : Int) < most) = false := by simp; omega
  have HR := hide hR
  clear hR
  go_enter Tryd.func3, Tryd.ntmps3
  go_wp2_with fail
  refine (roomy_any ao c zs _ hs hlen).mono ?_
  rintro e w1 ⟨g, rfl, hg, hroom, hb1⟩
  have hs1 := hs.below hb1
  have hgs := hroom.lt
  have hz1 := hb1.size
  go_wp2_with fail
  refine (unpack_seg (some ⟨g, 0, none⟩) (zs.length + 2) zs most _ hroom.sl hby (by omega) hm).mono ?_
  rintro e w2 ⟨pv, ev, rfl, ho, hb2⟩
  rw [HR.out] at ho
  obtain ⟨ho, rfl⟩ := ho
  have hroom2 := hroom.below hb2
  have hs2 := hs1.below hb2
  have hz2 := hb2.size
  go_wp2_with fail
  refine (tell_nil _).mono ?_
  rintro e w3 ⟨rfl, hb3⟩
  have ho3 := ho.below hb3
  have hroom3 := hroom2.below hb3
  have hs3 := hs2.below hb3
  have hz3 := hb3.size
  go_wp2_with fail
  refine (still_any g ao c zs _ hroom3 hs3 hlen).mono ?_
  rintro e w4 ⟨rfl, m4, rfl⟩
  go_wp2_with fail
  refine (spoil_any g zs.length _ (zs ++ [71, 72]) (by omega) (by simp) hroom3.drewN).mono ?_
  rintro e w5 ⟨rfl, hg5⟩
  have hb5 : Below w.heap.size w w5 := (below_drewN (((hb1.trans (hb2.mono hz1)).trans (hb3.mono (by omega)))) m4).grown hg5 (by simp; omega) (fun k hk => by cases hk; exact hg)
  have ho5 := (ho3.drewN (n := m4)).spoilt hg5 hgs
  have hz5 := hg5.size
  have hs5 := hs.below hb5
  go_wp2_with fail
  refine (ref_any ao c zs most _ hs5 hby (by omega) hm hmin).mono ?_
  rintro e w6 ⟨qv, fv, rfl, hq, hb6⟩
  rw [HR.out] at hq
  obtain ⟨hq, rfl⟩ := hq
  have ho6 := ho5.below hb6
  obtain ⟨a1, c1, rfl, hc1, hm1, s1, _⟩ := ho6.shape
  obtain ⟨a2, c2, rfl, hc2, hm2, s2, _⟩ := hq.shape
  have hbt : Below w.heap.size w w6 := hb5.trans (hb6.mono (by simp at hz5; omega))
  unfold maxLen at hm1
  have hoo : decide (out = out) = true := by simp
  go_wp2_with fail
  refine (same_any a1 a2 c1 c2 out out _ s1 s2 (by omega)).mono ?_
  rintro e w7 ⟨rfl, m7, rfl⟩
  clear hs hs1 hs2 hs3 hs5 hroom hroom2 hroom3 ho ho3 ho5 ho6 hq s1 s2 hb1 hb2 hb3 hb5 hb6 hg5
  go_wp2_with (go_at_call 13; refine (num_any _ _).mono ?_; rintro e w8 ⟨rfl, rfl⟩)
  go_ret
  exact ⟨rfl, below_drewN hbt _⟩

set_option maxHeartbeats 2000000 in
theorem unpacks_bad (ao : Option Addr) (c : Nat) (zs : List Int) (n : Int) (most : Int) (w : World) (hs : Sl w ao c zs) (hby : Byt zs) (hlen : zs.length ≤ 1048576) (hm : most ≤ 1048576) (hmin : -9223372036854775808 ≤ most) (hR : unp most zs [] = .inl n) (hn12 : n = 1 ∨ n = 2) (het : ET w) :
    Calls Tryd.prog 3 #[.slice ao zs.length c, .int .i64 most] w fun e w' => e = .returned (.bool true) ∧ Below w.heap.size w w' := by
  have hd : decide ((1048576 : Int) < (zs.length : Int)) = false := by simp; omega
  have hd2 : decide ((1048576 : Int) < most) = false := by simp; omega
  have HR := hide hR
  clear hR
  go_enter Tryd.func3, Tryd.ntmps3
  go_wp2_with fail
  refine (roomy_any ao c zs _ hs hlen).mono ?_
  rintro e w1 ⟨g, rfl, hg, hroom, hb1⟩
  have hs1 := hs.below hb1
  have hgs := hroom.lt
  have hz1 := hb1.size
  go_wp2_with fail
  refine (unpack_seg (some ⟨g, 0, none⟩) (zs.length + 2) zs most _ hroom.sl hby (by omega) hm).mono ?_
  rintro e w2 ⟨pv, ev, rfl, ho, hb2⟩
  rw [HR.out] at ho
  obtain ⟨rfl, rfl⟩ := ho
  have het2 : ET w2 := (het.below het.lt hb1).below (Nat.lt_of_lt_of_le het.lt hz1) hb2
  have hroom2 := hroom.below hb2
  have hs2 := hs1.below hb2
  have hz2 := hb2.size
  go_wp2_with fail
  refine (tell_errno n _ het2).mono ?_
  rintro e w3 ⟨rfl, hb3⟩
  have hroom3 := hroom2.below hb3
  have hs3 := hs2.below hb3
  have hz3 := hb3.size
  go_wp2_with fail
  refine (still_any g ao c zs _ hroom3 hs3 hlen).mono ?_
  rintro e w4 ⟨rfl, m4, rfl⟩
  go_wp2_with fail
  refine (spoil_any g zs.length _ (zs ++ [71, 72]) (by omega) (by simp) hroom3.drewN).mono ?_
  rintro e w5 ⟨rfl, hg5⟩
  have hb5 : Below w.heap.size w w5 := (below_drewN (((hb1.trans (hb2.mono hz1)).trans (hb3.mono (by omega)))) m4).grown hg5 (by simp; omega) (fun k hk => by cases hk; exact hg)
  have hz5 := hg5.size
  have hs5 := hs.below hb5
  go_wp2_with fail
  refine (ref_any ao c zs most _ hs5 hby (by omega) hm hmin).mono ?_
  rintro e w6 ⟨qv, fv, rfl, hq, hb6⟩
  rw [HR.out] at hq
  obtain ⟨rfl, rfl⟩ := hq
  have hbt : Below w.heap.size w w6 := hb5.trans (hb6.mono (by simp at hz5; omega))
  go_wp2_with fail
  refine (same_nil none none 0 0 _).mono ?_
  rintro e w7 ⟨rfl, rfl⟩
  clear hs hs1 hs2 hs3 hs5 hroom hroom2 hroom3 hb1 hb2 hb3 hb5 hb6 hg5
  have hnn : (n == n) = true := by simp
  have hn0 : (n == 0) = false := by rcases hn12 with rfl | rfl <;> rfl
  have heq : ∀ w, (binOp .eql 22 (.slice none 0 0) (.slice none 0 0)).run Tryd.prog w = .ok (.bool true) w := fun w => by kernel_rfl
  clear hn12
  go_wp2_with (go_at_call 13; refine (num_any _ _).mono ?_; rintro e w8 ⟨rfl, rfl⟩)
  go_ret
  exact ⟨rfl, hbt⟩

theorem unp_12 (most : Int) : ∀ (n : Nat) (rest out : List Int), rest.length ≤ n → ∀ k, unp most rest out = .inl k → k = 1 ∨ k = 2 := by
  intro n
  induction n with
  | zero =>
    intro rest out hn k h
    obtain rfl : rest = [] := List.eq_nil_of_length_eq_zero (by omega)
    rw [unp_nil] at h; cases h
  | succ n ih =>
    intro rest out hn k h
    cases rest with
    | nil => rw [unp_nil] at h; cases h
    | cons t r =>
      simp only [List.length_cons] at hn
      by_cases ht : t < 128
      · by_cases h1 : (r.length : Int) < t + 1
        · rw [unp_p1 _ _ _ _ ht h1] at h; cases h; exact Or.inl rfl
        · by_cases h2 : most < (out.length : Int) + (t + 1)
          · rw [unp_p2 _ _ _ _ ht h1 h2] at h; cases h; exact Or.inr rfl
          · rw [unp_p3 _ _ _ _ ht h1 h2] at h
            exact ih _ _ (by simp only [List.length_drop]; omega) k h
      · by_cases h1 : r.length < 2
        · rw [unp_c1 _ _ _ _ ht h1] at h; cases h; exact Or.inl rfl
        · by_cases h2 : r.getD 0 0 * 256 + r.getD 1 0 = 0 ∨ (out.length : Int) < r.getD 0 0 * 256 + r.getD 1 0
          · rw [unp_c2 _ _ _ _ ht h1 h2] at h; cases h; exact Or.inl rfl
          · by_cases h3 : most < (out.length : Int) + (t - 125)
            · rw [unp_c3 _ _ _ _ ht h1 h2 h3] at h; cases h; exact Or.inr rfl
            · rw [unp_c4 _ _ _ _ ht h1 h2 h3] at h
              exact ih _ _ (by simp only [List.length_drop]; omega) k h

/-- The law Unpacks, whatever came in. -/
theorem unpacks_any (ao : Option Addr) (c : Nat) (zs : List Int) (most : Int) (w : World) (hs : Sl w ao c zs) (hby : Byt zs) (hl : zs.length ≤ maxLen) (hmin : -9223372036854775808 ≤ most) (het : ET w) :
    Calls Tryd.prog 3 #[.slice ao zs.length c, .int .i64 most] w fun e w' => e = .returned (.bool true) ∧ Below w.heap.size w w' := by
  by_cases h1 : zs.length ≤ 1048576
  · by_cases h2 : most ≤ 1048576
    · cases hR : unp most zs [] with
      | inl n => exact unpacks_bad ao c zs n most w hs hby h1 h2 hmin hR (unp_12 most _ zs [] (Nat.le_refl _) n hR) het
      | inr out => exact unpacks_ok ao c zs out most w hs hby h1 h2 hmin hR
    · exact unpacks_most ao zs.length c most w h1 h2
  · exact unpacks_big ao zs.length c most w h1 hl
end Go.Proofs.YtjafmnpobalepaaDoor
