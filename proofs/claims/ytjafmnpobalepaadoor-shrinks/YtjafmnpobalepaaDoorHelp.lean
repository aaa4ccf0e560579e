/-
  The laws' own helpers: roomy, still, spoil, same, num: walks.
-/
import Derived.Test.YtjafmnpobalepaaDoorOwn
import Derived.BigQuiet
import Derived.Deep.QuietTactic
import Derived.WalkLawsBesides
import Derived.WalkSpells
import Derived.Laws.CopyOwn
namespace Go.Proofs.YtjafmnpobalepaaDoor
open Go.RowKit

theorem num_any (n : Int) (w : World) : Calls Tryd.prog 13 #[.int .i64 n] w fun e w' => e = .returned (.int .i64 n) ∧ w' = w := by
  go_enter Tryd.func13, Tryd.ntmps13
  go_wp2
  go_ret
  exact ⟨rfl, rfl⟩

theorem ext_getD {xs ys : List Int} (hl : xs.length = ys.length) (h : ∀ j, j < xs.length → xs.getD j 0 = ys.getD j 0) : xs = ys := by
  refine List.ext_getElem? fun i => ?_
  by_cases hi : i < xs.length
  · have := h i hi
    simp only [List.getD_eq_getElem?_getD, List.getElem?_eq_getElem hi, List.getElem?_eq_getElem (hl ▸ hi), Option.getD_some] at this
    rw [List.getElem?_eq_getElem hi, List.getElem?_eq_getElem (hl ▸ hi), this]
  · rw [List.getElem?_eq_none (by omega), List.getElem?_eq_none (by omega)]

theorem same_len (a1 a2 : Option Addr) (c1 c2 n1 n2 : Nat) (w : World) (h : n1 ≠ n2) :
    Calls Tryd.prog 12 #[.slice a1 n1 c1, .slice a2 n2 c2] w fun e w' => e = .returned (.bool false) ∧ w' = w := by
  have h' : ((n1 : Int) != (n2 : Int)) = true := by rw [bne_iff_ne]; omega
  go_enter Tryd.func12, Tryd.ntmps12
  go_wp2
  go_ret
  exact ⟨rfl, rfl⟩

theorem same_nil (a1 a2 : Option Addr) (c1 c2 : Nat) (w : World) :
    Calls Tryd.prog 12 #[.slice a1 0 c1, .slice a2 0 c2] w fun e w' => e = .returned (.bool true) ∧ w' = w := by
  go_enter Tryd.func12, Tryd.ntmps12
  go_wp2
  refine wp_loop_rounds 1 ?_
  rw [rounds_succ]
  go_wp2
  go_ret
  exact ⟨rfl, rfl⟩

theorem same_eq (b1 o1 c1 b2 o2 c2 n : Nat) (xs ys : List Int) (w : World) (hx : xs.length = n) (hy : ys.length = n) (hn : n ≤ 9223372036854775807)
    (h1 : ∀ i, i < n → w.cell? ⟨b1, o1 + i, none⟩ = some (.int .u8 (xs.getD i 0))) (h2 : ∀ i, i < n → w.cell? ⟨b2, o2 + i, none⟩ = some (.int .u8 (ys.getD i 0))) :
    Calls Tryd.prog 12 #[.slice (some ⟨b1, o1, none⟩) n c1, .slice (some ⟨b2, o2, none⟩) n c2] w fun e w' => e = .returned (.bool (decide (xs = ys))) ∧ ∃ m, w' = w.drewN m := by
  have h' : ((n : Int) != (n : Int)) = false := by simp
  have HX := hide hx
  have HY := hide hy
  clear hx hy
  go_enter Tryd.func12, Tryd.ntmps12
  go_wp2
  go_loopw [5] (fun i wr => ∃ k : Nat, k ≤ n ∧ i = .int .i64 k ∧ (∀ j, j < k → xs.getD j 0 = ys.getD j 0) ∧ ∃ m, wr = w.drewN m) (fun i _ => n - (intOf i).toNat)
  case atStart => exact ⟨0, Nat.zero_le _, rfl, fun j hj => absurd hj (by omega), 0, rfl⟩
  case round =>
    obtain ⟨k, hk, rfl, hpre, m, rfl⟩ := hrel
    have HP := hide hpre
    clear hpre
    by_cases hlt : k < n
    · have e1 := h1 k hlt
      have e2 := h2 k hlt
      have g1 : (k : Int) < (n : Int) := by omega
      have H1 := hide h1
      have H2 := hide h2
      clear h1 h2
      obtain ⟨x, hx⟩ : ∃ x, x = xs.getD k 0 := ⟨_, rfl⟩
      obtain ⟨y, hy⟩ : ∃ y, y = ys.getD k 0 := ⟨_, rfl⟩
      rw [← hx] at e1
      rw [← hy] at e2
      have Hx := hide hx
      have Hy := hide hy
      clear hx hy
      by_cases hxy : x = y
      · subst hxy
        go_wp2
        go_quiet (fail)
        go_wp2
        go_roundw
        case rel =>
          refine ⟨k + 1, by omega, by go_num, fun j hj => ?_, _, rfl⟩
          rcases Nat.lt_or_ge j k with h | h
          · exact HP.out j h
          · obtain rfl : j = k := by omega
            exact Hx.out.symm.trans Hy.out
        case measure => simp [intOf]; omega
      · have hne : (x != y) = true := by rw [bne_iff_ne]; exact hxy
        have HNE := hide hxy
        clear hxy
        go_wp2
        go_quiet (fail)
        go_wp2
        go_ret
        refine ⟨?_, _, by rw [World.drewN_drewN]⟩
        have : xs ≠ ys := fun e => HNE.out (by rw [Hx.out, Hy.out, e])
        simp [this]
    · obtain rfl : k = n := by omega
      clear h1 h2
      go_wp2
      go_ret
      refine ⟨?_, _, rfl⟩
      have : xs = ys := ext_getD (by rw [HX.out, HY.out]) (fun j hj => HP.out j (by rw [HX.out] at hj; exact hj))
      simp [this]

/-- same, of any two slices of bytes. -/
theorem same_any (a1 a2 : Option Addr) (c1 c2 : Nat) (xs ys : List Int) (w : World) (h1 : Sl w a1 c1 xs) (h2 : Sl w a2 c2 ys) (hn : xs.length ≤ 9223372036854775807) :
    Calls Tryd.prog 12 #[.slice a1 xs.length c1, .slice a2 ys.length c2] w fun e w' => e = .returned (.bool (decide (xs = ys))) ∧ ∃ m, w' = w.drewN m := by
  by_cases hl : xs.length = ys.length
  · by_cases h0 : xs = []
    · subst h0
      obtain rfl : ys = [] := List.eq_nil_of_length_eq_zero (by simpa using hl.symm)
      refine (same_nil a1 a2 c1 c2 w).mono ?_
      rintro e w' ⟨rfl, rfl⟩
      exact ⟨by simp, 0, rfl⟩
    · have h0' : ys ≠ [] := fun e => h0 (List.eq_nil_of_length_eq_zero (by simp [hl, e]))
      obtain ⟨b1, o1, rfl, e1⟩ := h1.2 h0
      obtain ⟨b2, o2, rfl, e2⟩ := h2.2 h0'
      have := same_eq b1 o1 c1 b2 o2 c2 xs.length xs ys w rfl hl.symm hn e1 (by rw [hl]; exact e2)
      rw [← hl]
      exact this
  · refine (same_len a1 a2 c1 c2 _ _ w hl).mono ?_
    rintro e w' ⟨rfl, rfl⟩
    exact ⟨by simp [show xs ≠ ys from fun e => hl (by rw [e])], 0, rfl⟩

/-- What roomy leaves: a row of its own, with two bytes more behind. -/
def Room (w : World) (g : Nat) (zs : List Int) : Prop := w.heap[g]? = some (.cells ((zs ++ [71, 72]).map (Value.int .u8)).toArray 5 (0, 0))

theorem Room.below {w w' : World} {g : Nat} {zs : List Int} (h : Room w g zs) (hb : Below w.heap.size w w') : Room w' g zs := by
  unfold Room at h ⊢
  rw [hb.block g (Array.getElem?_eq_some_iff.1 h).1]; exact h
theorem Room.lt {w : World} {g : Nat} {zs : List Int} (h : Room w g zs) : g < w.heap.size := (Array.getElem?_eq_some_iff.1 h).1
theorem Room.cell {w : World} {g : Nat} {zs : List Int} (h : Room w g zs) (i : Nat) (hi : i < zs.length + 2) : w.cell? ⟨g, i, none⟩ = some (.int .u8 ((zs ++ [71, 72]).getD i 0)) := by
  rw [block_cell h i]
  have : i < (zs ++ [71, 72]).length := by simp; omega
  generalize zs ++ [71, 72] = L at this ⊢
  simp [List.getD_eq_getElem?_getD, List.getElem?_eq_getElem this]
theorem Room.sl {w : World} {g : Nat} {zs : List Int} (h : Room w g zs) : Sl w (some ⟨g, 0, none⟩) (zs.length + 2) zs :=
  ⟨by omega, fun _ => ⟨g, 0, rfl, fun i hi => by rw [Nat.zero_add, h.cell i (by omega)]; simp [List.getD_eq_getElem?_getD, List.getElem?_append_left hi]⟩⟩
theorem Room.at0 {w : World} {g : Nat} {zs : List Int} (h : Room w g zs) : w.cell? ⟨g, zs.length, none⟩ = some (.int .u8 71) := by
  rw [h.cell _ (by omega)]; simp [List.getD_eq_getElem?_getD]
theorem Room.at1 {w : World} {g : Nat} {zs : List Int} (h : Room w g zs) : w.cell? ⟨g, zs.length + 1, none⟩ = some (.int .u8 72) := by
  rw [h.cell _ (by omega)]; simp [List.getD_eq_getElem?_getD]

set_option maxHeartbeats 400000 in
theorem still_any (g : Nat) (ao : Option Addr) (c : Nat) (zs : List Int) (w : World) (hr : Room w g zs) (hs : Sl w ao c zs) (hn : zs.length ≤ 1048576) :
    Calls Tryd.prog 9 #[.slice (some ⟨g, 0, none⟩) zs.length (zs.length + 2), .slice ao zs.length c] w fun e w' => e = .returned (.bool true) ∧ ∃ m, w' = w.drewN m := by
  have s0 := hr.sl
  have e0 := hr.at0
  have e1 := hr.at1
  have hd : decide (zs = zs) = true := by simp
  go_enter Tryd.func9, Tryd.ntmps9
  go_wp2_with (go_at_call 12; refine (same_any (some ⟨g, 0, none⟩) ao (zs.length + 2) c zs zs _ s0 hs (by omega)).mono ?_; rintro e w' ⟨rfl, m, rfl⟩)
  go_ret
  exact ⟨rfl, m, rfl⟩

set_option maxHeartbeats 400000 in
theorem spoil_any (g n : Nat) (w : World) (cs : List Int) (hn : n + 2 ≤ 4194304) (hl : cs.length = n + 2) (hr : w.heap[g]? = some (.cells (cs.map (Value.int .u8)).toArray 5 (0, 0))) :
    Calls Tryd.prog 10 #[.slice (some ⟨g, 0, none⟩) n (n + 2)] w fun e w' => e = .returned (.tuple #[]) ∧ w.grownBy w' (some g) := by
  have HL := hide hl
  clear hl
  go_enter Tryd.func10, Tryd.ntmps10
  go_wp2
  go_loopw [3] (fun i wr => ∃ k : Nat, k ≤ n + 2 ∧ i = .int .i64 k ∧ w.grownBy wr (some g) ∧ ∃ ds : List Int, Hid (ds.length = n + 2) ∧ wr.heap[g]? = some (.cells (ds.map (Value.int .u8)).toArray 5 (0, 0))) (fun i _ => n + 2 - (intOf i).toNat)
  case atStart => exact ⟨0, Nat.zero_le _, rfl, World.grownBy.refl _ _, cs, HL, hr⟩
  case round =>
    obtain ⟨k, hk, rfl, hgr, ds, HD, hrow⟩ := hrel
    by_cases hlt : k < n + 2
    · have hkd : k < ds.length := by have := HD.out; omega
      have e1 : wr.cell? ⟨g, k, none⟩ = some (.int .u8 ds[k]) := by
        rw [block_cell hrow k]; simp [List.getElem?_eq_getElem hkd]
      have f1 : wr.frozen? ⟨g, k, none⟩ = false := frozen_of_row wr g k _ _ hrow
      have g1 : (k : Int) < (n : Int) + 2 := by omega
      generalize ds[k] = x at e1
      have HR := hide hrow
      have HG := hide hgr
      clear hrow hgr
      go_wp2
      go_roundw
      case rel =>
        refine ⟨k + 1, by omega, by go_num, ?_, ds.set k (bits BinOp.xor IntKind.u8 x 85), by unfold Hid; rw [List.length_set]; exact HD.out, ?_⟩
        · refine HG.out.trans ⟨rfl, rfl, rfl, by simp, fun j _ hj => Below.heap_setCell _ _ _ _ (fun e => hj (by simp [e]))⟩
        · rw [heap_setCell_same wr g k _ _ _ HR.out]; simp [List.map_set]
      case measure => simp [intOf]; omega
    · go_wp2
      go_end0
      exact ⟨rfl, hgr⟩

theorem roomy_row {ds zs : List Int} (hl : ds.length = zs.length + 2) : ((splice (ds.map (Value.int .u8)) 0 (zs.map (Value.int .u8))).set zs.length (Value.int .u8 71)).set (zs.length + 1) (Value.int .u8 72) = (zs ++ [71, 72]).map (Value.int .u8) := by
  have hd : ∃ p q, ds.drop zs.length = [p, q] := by
    have : (ds.drop zs.length).length = 2 := by simp; omega
    match ds.drop zs.length, this with
    | [p, q], _ => exact ⟨p, q, rfl⟩
  obtain ⟨p, q, hpq⟩ := hd
  simp [splice, ← List.map_drop, hpq]

theorem row_some {w : World} {g j : Nat} {L : List Value} {t : TypeId} (hS : w.heap[g]? = some (.cells L.toArray t (0, 0))) (hj : j < L.length) : ∃ u, w.cell? ⟨g, j, none⟩ = some u :=
  ⟨L[j], by rw [block_cell hS]; simp [hj]⟩

theorem made_block {w : World} {base g m : Nat} (h : w.ownsRow base 5 1 (.slice (some ⟨g, 0, none⟩) m m) m (madeCells #[Value.int .u8 0] m).toList) :
    w.heap[g]? = some (.cells ((List.replicate m (0 : Int)).map (Value.int .u8)).toArray 5 (0, 0)) := by
  rcases h.2 with ⟨h', _⟩ | ⟨g', cap', cur, h', _, hg, _, _, hcs, htake⟩
  · simp at h'
  · simp only [Value.slice.injEq, Option.some.injEq, Addr.mk.injEq, and_true, true_and] at h'
    obtain ⟨rfl, rfl⟩ := h'
    rw [hg]
    have : cur = ((List.replicate m (0 : Int)).map (Value.int .u8)).toArray := by
      apply Array.toList_inj.1
      rw [toList_madeCells_one, List.take_of_length_le (by simp; omega)] at htake
      rw [htake]; simp
    rw [this]

set_option maxHeartbeats 400000 in
theorem roomy_any (ao : Option Addr) (c : Nat) (zs : List Int) (w : World) (hs : Sl w ao c zs) (hn : zs.length ≤ 1048576) :
    Calls Tryd.prog 6 #[.slice ao zs.length c] w fun e w' => ∃ g, e = .returned (.slice (some ⟨g, 0, none⟩) zs.length (zs.length + 2)) ∧ w.heap.size ≤ g ∧ Room w' g zs ∧ Below w.heap.size w w' := by
  obtain ⟨i0, hi, hz0, hz1, hz2⟩ := info_parts Tryd.infoB
  have hsize : (Tryd.prog.info? 5).map (·.size) = some 1 := by rw [hi]; simp [hz1]
  go_enter Tryd.func6, Tryd.ntmps6
  go_wp2_with (at_make; refine wpList_make_full _ rfl _ _ 22 rfl w.heap.size 5 i0 (.int .u8 0) 1 Tryd.underlying22 hi hz0 hz1 .i64 .i64 _ _ (zs.length + 2) rfl rfl (by omega) (by omega) ?_ ?_ (Nat.le_refl _) ?_)
  · rw [hz2]; omega
  · unfold maxLen; omega
  intro w1 hown1 hgr1
  have blk1 := made_block hown1
  have hb1 : Below w.heap.size w w1 := (Below.refl _ _).grown hgr1 (Nat.le_refl _) (fun k hk => by cases hk)
  have hpos : 0 < (zs.map (Value.int .u8)).length → ∃ ad, ao = some ad ∧ ∀ j v, (zs.map (Value.int .u8))[j]? = some v → w1.cell? (ad.add j) = some v := by
    intro h0
    obtain ⟨b, off, rfl, hc⟩ := (hs.below hb1).2 (by intro e; simp [e] at h0)
    exact ⟨⟨b, off, none⟩, rfl, news_cells hc⟩
  clear hown1 hgr1
  have HP := hide hpos
  have HK := hide blk1
  clear hpos blk1
  go_wp2_with (refine wpList_copy_splice rfl _ _ 22 22 rfl 5 Tryd.underlying22 hsize (some ⟨w.heap.size, 0, none⟩) ao (zs.length + 2) (zs.length + 2) zs.length c rfl rfl w.heap.size 0 ((List.replicate (zs.length + 2) (0 : Int)).map (Value.int .u8)) 5 HK.out (zs.map (Value.int .u8)) ?_ (fun h => ⟨rfl, HP.out h⟩) ?_ (ints_oneCell _ _) w.heap.size w hb1 (Nat.le_refl _) ?_)
  · simp
  · simp
  intro w2 HB hb2
  have hc0 : ∃ u, w2.cell? ⟨w.heap.size, zs.length, none⟩ = some u := by
    exact row_some HB.out (by rw [length_splice _ _ _ (by simp)]; simp)
  have hc1 : ∃ u, w2.cell? ⟨w.heap.size, zs.length + 1, none⟩ = some u := by
    exact row_some HB.out (by rw [length_splice _ _ _ (by simp)]; simp)
  obtain ⟨u0, hu0⟩ := hc0
  obtain ⟨u1, hu1⟩ := hc1
  have hf0 : w2.frozen? ⟨w.heap.size, zs.length, none⟩ = false := frozen_of_row _ _ _ _ _ HB.out
  have hf1 : w2.frozen? ⟨w.heap.size, zs.length + 1, none⟩ = false := frozen_of_row _ _ _ _ _ HB.out
  clear hb1 hs HP HK
  go_wp2
  go_ret
  refine ⟨w.heap.size, rfl, Nat.le_refl _, ?_, (hb2.setCell (Nat.le_refl _) _).setCell (Nat.le_refl _) _⟩
  unfold Room
  rw [heap_setCell_same _ _ _ _ _ _ (heap_setCell_same _ _ _ _ _ _ HB.out)]
  have := roomy_row (ds := List.replicate (zs.length + 2) (0 : Int)) (zs := zs) (by simp)
  rw [List.map_replicate] at this
  rw [← this]
  simp
end Go.Proofs.YtjafmnpobalepaaDoor
