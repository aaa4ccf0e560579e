/-
  The law Shrinks: its walk.
-/
import Derived.Test.YtjafmnpobalepaaDoorPacks
import Derived.Test.YtjafmnpobalepaaDoorPeriod
namespace Go.Proofs.YtjafmnpobalepaaDoor
open Go.RowKit

/-- A block again and again. -/
def rep (blk : List Int) (k : Nat) : List Int := (List.range k).map fun i => blk.getD (i % blk.length) 0
theorem rep_zero (blk : List Int) : rep blk 0 = [] := rfl
theorem rep_succ (blk : List Int) (k : Nat) : rep blk (k + 1) = rep blk k ++ [blk.getD (k % blk.length) 0] := by simp [rep, List.range_succ]
theorem rep_len (blk : List Int) (k : Nat) : (rep blk k).length = k := by simp [rep]
theorem rpt_at (blk : List Int) (k i : Nat) (h : i < k) : (rep blk k).getD i 0 = blk.getD (i % blk.length) 0 := by
  simp [rep, List.getD_eq_getElem?_getD, h]
theorem rep_per (blk : List Int) (k : Nat) : Per (rep blk k) blk.length := by
  intro i hi
  rw [rep_len] at hi
  rw [rpt_at _ _ _ hi, rpt_at _ _ _ (by omega), Nat.add_mod_right]
theorem rep_byt {blk : List Int} (h : Byt blk) (k : Nat) : Byt (rep blk k) := by
  intro z hz
  simp only [rep, List.mem_map] at hz
  obtain ⟨i, _, rfl⟩ := hz
  exact h.getD _

theorem conv_u (n : Int) : ∃ u : Int, 0 ≤ u ∧ u ≤ 18446744073709551615 ∧ ∀ w, (convert 3 38 (.int .i64 n)).run Tryd.prog w = .ok (.int .u64 u) w := by
  refine ⟨IntKind.u64.wrap n, ?_, ?_, fun w => ?_⟩
  · simp only [IntKind.wrap, IntKind.bits, IntKind.signed]; simp; omega
  · simp only [IntKind.wrap, IntKind.bits, IntKind.signed]; simp; omega
  · go_simp

set_option maxHeartbeats 800000 in
theorem shrinks_out (ao : Option Addr) (l c : Nat) (n : Int) (w : World) (h : l = 0 ∨ 100 < l) (hl : l ≤ maxLen) :
    Calls Tryd.prog 5 #[.slice ao l c, .int .i64 n] w fun e w' => e = .returned (.bool true) ∧ Below w.heap.size w w' := by
  unfold maxLen at hl
  obtain ⟨u, hu0, hu1, hcv⟩ := conv_u n
  rcases h with rfl | h
  · go_enter Tryd.func5, Tryd.ntmps5
    go_wp2
    go_ret
    exact ⟨rfl, Below.refl _ _⟩
  · have hd : ((l : Int) == 0) = false := by simp; omega
    have hi : (100 : Int) < (l : Int) := by omega
    go_enter Tryd.func5, Tryd.ntmps5
    go_wp2
    go_ret
    exact ⟨rfl, Below.refl _ _⟩

set_option maxRecDepth 20000 in
set_option maxHeartbeats 2000000 in
theorem shrinks_in (b off c : Nat) (blk : List Int) (n : Int) (w : World) (hcells : ∀ i, i < blk.length → w.cell? ⟨b, off + i, none⟩ = some (.int .u8 (blk.getD i 0))) (hby : Byt blk) (h1 : 1 ≤ blk.length) (h2 : blk.length ≤ 100) :
    Calls Tryd.prog 5 #[.slice (some ⟨b, off, none⟩) blk.length c, .int .i64 n] w fun e w' => e = .returned (.bool true) ∧ Below w.heap.size w w' := by
  obtain ⟨i0, hi, hz0, hz1, hz2⟩ := info_parts Tryd.infoB
  have hb : b < w.heap.size := World.block_lt_of_cell? w _ (hcells 0 h1)
  obtain ⟨u, hu0, hu1, hcv⟩ := conv_u n
  obtain ⟨N, hN⟩ := Int.eq_ofNat_of_zero_le (show 0 ≤ u % 20001 by omega)
  have hN2 : N ≤ 20000 := by omega
  have hd : ((blk.length : Int) == 0) = false := by rw [beq_eq_false_iff_ne]; omega
  have HC := hide hcells
  have HB := hide hby
  clear hcells hby
  go_enter Tryd.func5, Tryd.ntmps5
  go_wp2
  go_loopw [5, 6] (fun v5 v6 wr => ∃ k : Nat, v6 = .int .i64 k ∧ k ≤ N ∧ Own wr w.heap.size v5 (rep blk k) ∧ Below w.heap.size w wr) (fun _ v6 _ => N - (intOf v6).toNat)
  case atStart => exact ⟨0, rfl, Nat.zero_le _, Own.nil _ _, Below.refl _ _⟩
  case round =>
    clear hcv hN hu0 hu1
    obtain ⟨k, rfl, hk, hown, hbel⟩ := hrel
    have hsz := hbel.size
    by_cases hlt : k < N
    · obtain ⟨j, hj⟩ : ∃ j : Nat, k % blk.length = j := ⟨_, rfl⟩
      have hj0 : j < blk.length := by rw [← hj]; exact Nat.mod_lt _ (by omega)
      have hj1 : (k : Int) % (blk.length : Int) = (j : Int) := by rw [← hj]; rfl
      have hj2 : (k : Int).tmod (blk.length : Int) = (j : Int) := by rw [Int.tmod_eq_emod_of_nonneg (by omega)]; exact hj1
      have hji : (j : Int) < (blk.length : Int) := by omega
      have HS : Hid (rep blk (k + 1) = rep blk k ++ [blk.getD j 0]) := by unfold Hid; rw [rep_succ, hj]
      have e1 : wr.cell? ⟨b, off + j, none⟩ = some (.int .u8 (blk.getD j 0)) := by rw [hbel.cell (p := ⟨b, off + j, none⟩) hb]; exact HC.out j hj0
      have hL := rep_len blk k
      have hL2 : (rep blk k).length ≤ 20000 := by omega
      have HJ := hide hj
      clear hj hL
      generalize rep blk k = L at *
      generalize blk.getD j 0 = x at *
      obtain ⟨aoL, capL, rfl, hcL, hmL, hsL, hnL⟩ := hown.shape
      clear hsL hnL
      go_wp2_with (at_builtin; refine wpList_append_own _ rfl _ _ 22 rfl w.heap.size 5 i0 (.int .u8 0) 1 1 Tryd.underlying22 hi hz0 hz1 hz2 rfl (by decide) _ L.length (L.map (Value.int .u8)) rfl (hown.alloc _) ⟨wr.heap.size, 0, none⟩ 1 1 [.int .u8 x] rfl rfl (cell_one_new _ _ _) ?_ ?_ ?_ ?_ ?_)
      · intro u hu; simp at hu; subst hu; rfl
      · unfold maxLen; omega
      · omega
      · simp; omega
      intro v' w3 hown' hgrow _
      have R1 : Own w3 w.heap.size v' (rep blk (k + 1)) := by unfold Own; rw [HS.out]; simpa using hown'
      have R3 : Below w.heap.size w w3 := (hbel.alloc (by omega) _).trans (Own.gb (hown.alloc _) hgrow (by simp; omega))
      clear hown' hgrow hown hbel e1
      go_wp2
      go_roundw
      case rel => exact ⟨k + 1, by go_num, by omega, R1, R3⟩
      case measure => simp [intOf]; omega
    · obtain rfl : k = N := by omega
      have hL := rep_len blk k
      have hzb := rep_byt HB.out k
      have hzp := rep_per blk k
      generalize rep blk k = zs at *
      obtain ⟨a1, c1, rfl, hc1, hm1, s1, _⟩ := hown.shape
      have HP := hide hzp
      have HL := hide hL
      have hpk := pack_seg a1 c1 zs wr s1 hzb (by omega)
      have HPK := hide hpk
      clear hzp hpk hL
      go_wp2_with fail
      refine HPK.out.mono ?_
      rintro e w2 ⟨pv, res, rfl, ho, hr, hb2⟩
      obtain ⟨hrb, hrl, hru⟩ := hr.right hzb
      have hrs := hr.short HP.out h1 h2 (by have := HL.out; omega)
      have hz2 := hb2.size
      obtain ⟨a2, c2, rfl, hc2, hm2, s2, _⟩ := ho.shape
      have hun := unpack_seg a2 c2 res zs.length _ s2 hrb (by have := HL.out; omega) (by have := HL.out; omega)
      rw [hru, HL.out] at hun
      have HUN := hide hun
      have HRS := hide hrs
      have hown2 := hown.below hb2
      have hb02 : Below w.heap.size w w2 := hbel.trans (hb2.mono hsz)
      clear hr hru hun hrs hrl ho hown hbel hb2 s2 s1
      go_wp2_with fail
      refine HUN.out.mono ?_
      rintro e w3 ⟨dv, ev, rfl, hq, hb3⟩
      obtain ⟨hq, rfl⟩ := hq
      have hz3 := hb3.size
      go_wp2_with fail
      refine (tell_nil _).mono ?_
      rintro e w4 ⟨rfl, hb4⟩
      have hz4 := hb4.size
      have hq4 := hq.below hb4
      have hown4 := (hown2.below hb3).below hb4
      obtain ⟨a4, c4, rfl, hc4, hm4, s4, _⟩ := hq4.shape
      obtain ⟨a5, c5, e5, _, _, s5, _⟩ := hown4.shape
      cases e5
      have hb04 : Below w.heap.size w w4 := (hb02.trans (hb3.mono (by omega))).trans (hb4.mono (by omega))
      have hsm := same_any a4 a1 c4 c1 zs zs _ s4 s5 (by have := HL.out; omega)
      have hoo : decide (zs = zs) = true := by simp
      rw [hoo] at hsm
      have HSM := hide hsm
      clear hsm hoo HUN hq hq4 hown2 hown4 hb3 hb4 hb02 s4 s5
      go_wp2_with fail
      refine HSM.out.mono ?_
      rintro e w5 ⟨rfl, m5, rfl⟩
      go_wp2_with fail
      refine (packs_ok _).mono ?_
      rintro e w6 ⟨rfl, hb6⟩
      have hbt : Below w.heap.size w w6 := (below_drewN hb04 m5).trans (hb6.mono (by simp; omega))
      clear hb6 hb04 HSM HPK
      by_cases hone : blk.length = 1
      · have hd1 : ((blk.length : Int) == 1) = true := by rw [beq_iff_eq]; omega
        have hle : (res.length : Int) ≤ (k : Int) / 40 + 8 := by have := HRS.out.1 hone; rw [HL.out] at this; omega
        have hdl : decide ((res.length : Int) ≤ (k : Int) / 40 + 8) = true := by simp only [decide_eq_true_eq]; exact hle
        have HO := hide hone
        clear hone
        go_wp2
        go_ret
        exact ⟨rfl, hbt⟩
      · have hd1 : ((blk.length : Int) == 1) = false := by rw [beq_eq_false_iff_ne]; omega
        have HO := hide hone
        clear hone
        by_cases h200 : k < 200
        · have hk2 : decide ((k : Int) < 200) = true := by simp only [decide_eq_true_eq]; omega
          go_wp2
          go_ret
          exact ⟨rfl, hbt⟩
        · have hk2 : decide ((k : Int) < 200) = false := by simp only [decide_eq_false_iff_not]; omega
          have hle : (res.length : Int) ≤ 110 + (k : Int) / 30 := by have := HRS.out.2 (by rw [HL.out]; omega); rw [HL.out] at this; omega
          have hdl : decide ((res.length : Int) ≤ 110 + (k : Int) / 30) = true := by simp only [decide_eq_true_eq]; exact hle
          go_wp2
          go_ret
          exact ⟨rfl, hbt⟩

/-- The law Shrinks, whatever came in. -/
theorem shrinks_any (ao : Option Addr) (c : Nat) (blk : List Int) (n : Int) (w : World) (hs : Sl w ao c blk) (hby : Byt blk) (hl : blk.length ≤ maxLen) :
    Calls Tryd.prog 5 #[.slice ao blk.length c, .int .i64 n] w fun e w' => e = .returned (.bool true) ∧ Below w.heap.size w w' := by
  by_cases h : blk.length = 0 ∨ 100 < blk.length
  · exact shrinks_out ao blk.length c n w h hl
  · obtain ⟨b, off, rfl, hc⟩ := hs.2 (by intro e; simp [e] at h)
    exact shrinks_in b off c blk n w hc hby (by omega) (by omega)
end Go.Proofs.YtjafmnpobalepaaDoor
