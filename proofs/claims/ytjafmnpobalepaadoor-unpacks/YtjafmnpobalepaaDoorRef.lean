/-
  segmentsref.Unpack (the document's answer): walks.
-/
import Derived.Test.YtjafmnpobalepaaDoorOwn
import Derived.BigQuiet
import Derived.Deep.QuietTactic
import Derived.WalkLawsBesides
import Derived.WalkSpells
namespace Go.Proofs.YtjafmnpobalepaaDoor
open Go.RowKit

/-- What the document's Unpack answers. -/
def RefOuts (w : World) (base : Nat) (r : Res) (pv ev : Value) : Prop :=
  match r with
  | .inl n => pv = .slice none 0 0 ∧ ev = .int .i64 n
  | .inr out => Own w base pv out ∧ ev = .int .i64 0

theorem ref_nil (ao : Option Addr) (c : Nat) (most : Int) (w : World) :
    Calls Tryd.prog 11 #[.slice ao 0 c, .int .i64 most] w fun e w' => ∃ pv ev, e = .returned (.tuple #[pv, ev]) ∧ RefOuts w' w.heap.size (.inr []) pv ev ∧ Below w.heap.size w w' := by
  go_enter Tryd.func11, Tryd.ntmps11
  go_wp2
  refine wp_loop_rounds 1 ?_
  rw [rounds_succ]
  go_wp2
  go_ret2
  exact ⟨_, _, rfl, ⟨Own.nil _ _, rfl⟩, Below.refl _ _⟩

theorem drop_at {zs : List Int} {k : Nat} (h : k < zs.length) : zs.drop k = zs.getD k 0 :: zs.drop (k + 1) := by
  rw [List.drop_eq_getElem_cons h]; simp [List.getD_eq_getElem?_getD, h]
theorem take_next {r : List Int} {j : Nat} (h : j < r.length) : r.take (j + 1) = r.take j ++ [r.getD j 0] := by
  rw [List.take_succ_eq_append_getElem h]; simp [List.getD_eq_getElem?_getD, h]

set_option maxRecDepth 100000 in
set_option maxHeartbeats 2000000 in
theorem ref_some (b off c : Nat) (zs : List Int) (most : Int) (w : World) (hcells : ∀ i, i < zs.length → w.cell? ⟨b, off + i, none⟩ = some (.int .u8 (zs.getD i 0))) (hby : Byt zs) (hlen : zs.length ≤ 4194304) (hm : most ≤ 1048576) (hmin : -9223372036854775808 ≤ most) (hb : b < w.heap.size) :
    Calls Tryd.prog 11 #[.slice (some ⟨b, off, none⟩) zs.length c, .int .i64 most] w fun e w' => ∃ pv ev, e = .returned (.tuple #[pv, ev]) ∧ RefOuts w' w.heap.size (unp most zs []) pv ev ∧ Below w.heap.size w w' := by
  obtain ⟨i0, hi, hz0, hz1, hz2⟩ := info_parts Tryd.infoB
  obtain ⟨R, hR⟩ : ∃ R, R = unp most zs [] := ⟨_, rfl⟩
  rw [← hR]
  have HB := hide hby
  have HC := hide hcells
  clear hby hcells
  go_enter Tryd.func11, Tryd.ntmps11
  go_wp2
  go_loopw [6, 7] (fun v6 v7 wr => ∃ (k : Nat) (out : List Int), v7 = .int .i64 k ∧ k ≤ zs.length ∧ Own wr w.heap.size v6 out ∧ Below w.heap.size w wr ∧ (out.length : Int) ≤ 1048576 ∧ Hid (unp most (zs.drop k) out = R)) (fun _ v7 _ => zs.length - (intOf v7).toNat)
  case atStart => exact ⟨0, [], rfl, Nat.zero_le _, Own.nil _ _, Below.refl _ _, by simp, by rw [hR]; rfl⟩
  case round =>
    clear hR
    obtain ⟨k, out, rfl, hk, hown, hbel, hol, HU⟩ := hrel
    obtain ⟨ao6, cap6, rfl, hc6, hm6, hs6, hn6⟩ := hown.shape
    have hsz := hbel.size
    by_cases hkl : k < zs.length
    · have hb0 := HB.out.getD k
      have e0 : wr.cell? ⟨b, off + k, none⟩ = some (.int .u8 (zs.getD k 0)) := by rw [hbel.cell (p := ⟨b, off + k, none⟩) hb]; exact HC.out k hkl
      have HU2 : Hid (unp most (zs.getD k 0 :: zs.drop (k + 1)) out = R) := by unfold Hid; rw [← drop_at hkl]; exact HU.out
      clear HU
      have hrl : (zs.drop (k + 1)).length = zs.length - (k + 1) := by simp
      have hrg : ∀ j, (zs.drop (k + 1)).getD j 0 = zs.getD (k + 1 + j) 0 := fun j => by simp [List.getD_eq_getElem?_getD]
      generalize zs.getD k 0 = t at *
      generalize hr0 : zs.drop (k + 1) = r at *
      have HR0 := hide hr0
      clear hr0
      have HRL := hide hrl
      have HRG := hide hrg
      clear hrl hrg
      obtain ⟨ht0, ht1⟩ := hb0
      have hrl1 : r.length + (k + 1) = zs.length := by have := HRL.out; omega
      have HR1 := hide hrl1
      clear hrl1
      have g1 : (k : Int) < (zs.length : Int) := by omega
      by_cases ht : t < 128
      · by_cases h1 : (r.length : Int) < t + 1
        · have h1' : (zs.length : Int) - ((k : Int) + 1) < t + 1 := by have := HR1.out; omega
          go_wp2
          go_ret2
          exact ⟨_, _, rfl, by rw [← HU2.out, unp_p1 _ _ _ _ ht h1]; exact ⟨rfl, rfl⟩, hbel⟩
        · have h1' : ¬ (zs.length : Int) - ((k : Int) + 1) < t + 1 := by have := HR1.out; omega
          by_cases h2 : most < (out.length : Int) + (t + 1)
          · go_wp2
            go_ret2
            exact ⟨_, _, rfl, by rw [← HU2.out, unp_p2 _ _ _ _ ht (by omega) h2]; exact ⟨rfl, rfl⟩, hbel⟩
          · go_wp2
            go_loopw [6, 11] (fun v6 v11 w2 => ∃ (j : Nat), v11 = .int .i64 j ∧ (j : Int) ≤ t + 1 ∧ Own w2 w.heap.size v6 (out ++ r.take j) ∧ Below w.heap.size w w2) (fun _ v11 _ => (t + 1).toNat - (intOf v11).toNat)
            case atStart => exact ⟨0, rfl, by omega, by simpa using hown, hbel⟩
            case round =>
              clear e0 hown hbel hs6 hn6 hsz
              obtain ⟨j, rfl, hj, hown, hbel⟩ := hrel
              have hsz := hbel.size
              by_cases hjn : (j : Int) < t + 1
              · have hjr : j < r.length := by omega
                have hz := HR1.out
                have e1 : wr.cell? ⟨b, off + (k + 1 + j), none⟩ = some (.int .u8 (r.getD j 0)) := by
                  rw [hbel.cell (p := ⟨b, off + (k + 1 + j), none⟩) hb, HRG.out j]; exact HC.out _ (by omega)
                have HT := hide (take_next hjr)
                have hL : (out ++ r.take j).length ≤ 1048576 := by rw [List.length_append, List.length_take]; omega
                have HA : Hid (out ++ r.take (j + 1) = (out ++ r.take j) ++ [r.getD j 0]) := by unfold Hid; rw [HT.out, List.append_assoc]
                have g2 : (k : Int) + 1 + (j : Int) < (zs.length : Int) := by omega
                clear HT hz
                generalize out ++ r.take j = L at *
                generalize r.getD j 0 = x at *
                obtain ⟨aoL, capL, rfl, hcL, hmL, hsL, hnL⟩ := hown.shape
                clear hsL hnL
                go_wp2_with (at_builtin; refine wpList_append_own _ rfl _ _ 22 rfl w.heap.size 5 i0 (.int .u8 0) 1 1 Tryd.underlying22 hi hz0 hz1 hz2 rfl (by decide) _ L.length (L.map (Value.int .u8)) rfl (hown.alloc _) ⟨wr.heap.size, 0, none⟩ 1 1 [.int .u8 x] rfl rfl (cell_one_new _ _ _) ?_ ?_ ?_ ?_ ?_)
                · intro u hu; simp at hu; subst hu; rfl
                · unfold maxLen; omega
                · omega
                · simp; omega
                intro v' w3 hown' hgrow _
                have R1 : Own w3 w.heap.size v' (out ++ r.take (j + 1)) := by
                  unfold Own; rw [HA.out]; simpa using hown'
                have R3 : Below w.heap.size w w3 := (hbel.alloc (by omega) _).trans (Own.gb (hown.alloc _) hgrow (by simp; omega))
                clear hown' hgrow hown hbel e1
                go_wp2
                go_roundw
                case rel => exact ⟨j + 1, by go_num, by omega, R1, R3⟩
                case measure => simp [intOf]; omega
              · have hjt : j = (t + 1).toNat := by omega
                have HJ := hide hjt
                clear hjt
                go_wp2
                go_roundw
                case rel =>
                  have hz := HR1.out
                  have hjt := HJ.out
                  refine ⟨k + 1 + (t + 1).toNat, out ++ r.take (t + 1).toNat, by go_num, by omega, hjt ▸ hown, hbel, by rw [List.length_append, List.length_take]; omega, ?_⟩
                  have e := unp_p3 most t r out ht (by omega) (by omega)
                  unfold Hid
                  rw [← List.drop_drop, HR0.out, ← e]
                  exact HU2.out
                case measure => simp [intOf]; omega
      · by_cases h1 : r.length < 2
        · have h1' : (zs.length : Int) - ((k : Int) + 1) < 2 := by have := HR1.out; omega
          go_wp2
          go_ret2
          exact ⟨_, _, rfl, by rw [← HU2.out, unp_c1 _ _ _ _ (by omega) h1]; exact ⟨rfl, rfl⟩, hbel⟩
        · have h1' : ¬ (zs.length : Int) - ((k : Int) + 1) < 2 := by have := HR1.out; omega
          have hz := HR1.out
          have e1 : wr.cell? ⟨b, off + (k + 1), none⟩ = some (.int .u8 (r.getD 0 0)) := by
            rw [hbel.cell (p := ⟨b, off + (k + 1), none⟩) hb, HRG.out 0]; exact HC.out _ (by omega)
          have e2 : wr.cell? ⟨b, off + (k + 1 + 1), none⟩ = some (.int .u8 (r.getD 1 0)) := by
            rw [hbel.cell (p := ⟨b, off + (k + 1 + 1), none⟩) hb, HRG.out 1]; exact HC.out _ (by omega)
          have hx01 : 0 ≤ r.getD 0 0 ∧ r.getD 0 0 ≤ 255 := by rw [HRG.out 0]; exact HB.out.getD _
          have hy01 : 0 ≤ r.getD 1 0 ∧ r.getD 1 0 ≤ 255 := by rw [HRG.out 1]; exact HB.out.getD _
          have g2 : (k : Int) + 1 < (zs.length : Int) := by omega
          have g3 : (k : Int) + 1 + 1 < (zs.length : Int) := by omega
          have HX : Hid (∀ m, unp m (t :: r) out = unp m (t :: r) out ∧ r.getD 0 0 = r.getD 0 0 ∧ r.getD 1 0 = r.getD 1 0) := fun _ => ⟨rfl, rfl, rfl⟩
          clear HX hz
          obtain ⟨x, hx⟩ : ∃ x, x = r.getD 0 0 := ⟨_, rfl⟩
          obtain ⟨y, hy⟩ : ∃ y, y = r.getD 1 0 := ⟨_, rfl⟩
          rw [← hx] at e1 hx01
          rw [← hy] at e2 hy01
          have Hx := hide hx
          have Hy := hide hy
          clear hx hy
          obtain ⟨hx0, hx1⟩ := hx01
          obtain ⟨hy0, hy1⟩ := hy01
          obtain ⟨d, hd⟩ := Int.eq_ofNat_of_zero_le (show 0 ≤ x * 256 + y by omega)
          have HD := hide hd
          have hdd : d ≤ 65535 := by omega
          have HDR : Hid (r.getD 0 0 * 256 + r.getD 1 0 = d) := by unfold Hid; rw [← Hx.out, ← Hy.out]; exact hd
          by_cases hd0 : d = 0
          · subst hd0
            go_wp2
            go_quiet (fail)
            go_wp2
            go_ret2
            exact ⟨_, _, rfl, by rw [← HU2.out, unp_c2 _ _ _ _ (by omega) (by omega) (Or.inl HDR.out)]; exact ⟨rfl, rfl⟩, below_drewN hbel _⟩
          have hd1 : ((d : Int) == 0) = false := by simp; omega
          have hd2 : 1 ≤ d := by omega
          have H0 := hide hd0
          clear hd0
          by_cases h2 : out.length < d
          · go_wp2
            go_quiet (fail)
            go_wp2
            go_ret2
            exact ⟨_, _, rfl, by rw [← HU2.out, unp_c2 _ _ _ _ (by omega) (by omega) (Or.inr (by rw [HDR.out]; omega))]; exact ⟨rfl, rfl⟩, below_drewN hbel _⟩
          have hnot : ¬ (r.getD 0 0 * 256 + r.getD 1 0 = 0 ∨ (out.length : Int) < r.getD 0 0 * 256 + r.getD 1 0) := by rw [HDR.out]; omega
          have Hnot := hide hnot
          clear hnot
          by_cases h3 : most < (out.length : Int) + (t - 125)
          · go_wp2
            go_quiet (fail)
            go_wp2
            go_ret2
            exact ⟨_, _, rfl, by rw [← HU2.out, unp_c3 _ _ _ _ (by omega) (by omega) Hnot.out (by omega)]; exact ⟨rfl, rfl⟩, below_drewN hbel _⟩
          · go_wp2
            go_quiet (fail)
            go_wp2
            clear hd
            go_loopw [6, 11] (fun v6 v11 w2 => ∃ (j : Nat), v11 = .int .i64 j ∧ (j : Int) ≤ t - 125 ∧ Own w2 w.heap.size v6 (cpy d j out) ∧ Below w.heap.size w w2) (fun _ v11 _ => (t - 125).toNat - (intOf v11).toNat)
            case atStart => exact ⟨0, rfl, by omega, hown, below_drewN hbel _⟩
            case round =>
              clear e0 e1 e2 hown hbel hs6 hn6 hsz
              obtain ⟨j, rfl, hj, hown, hbel⟩ := hrel
              have hsz := hbel.size
              by_cases hjn : (j : Int) < t - 125
              · have hl0 := cpy_length d j out
                have HA := hide (cpy_succ d j out)
                have hL : (cpy d j out).length ≤ 1048576 := by omega
                have hL2 : d ≤ (cpy d j out).length := by omega
                clear hl0
                generalize cpy d j out = L at *
                obtain ⟨g, cap, rfl, hg1, hg2, hcap, hmax, hcell⟩ := hown.form (by omega)
                have ce := hcell (L.length - d) (by omega)
                generalize L.getD (L.length - d) 0 = x2 at *
                have hdL : (d : Int) ≤ (L.length : Int) := by omega
                clear hcell
                go_wp2_with (at_builtin; refine wpList_append_own _ rfl _ _ 22 rfl w.heap.size 5 i0 (.int .u8 0) 1 1 Tryd.underlying22 hi hz0 hz1 hz2 rfl (by decide) _ L.length (L.map (Value.int .u8)) rfl (hown.alloc _) ⟨wr.heap.size, 0, none⟩ 1 1 [.int .u8 x2] rfl rfl (cell_one_new _ _ _) ?_ ?_ ?_ ?_ ?_)
                · intro u hu; simp at hu; subst hu; rfl
                · unfold maxLen; omega
                · omega
                · simp; omega
                intro v' w3 hown' hgrow _
                have R1 : Own w3 w.heap.size v' (cpy d (j + 1) out) := by
                  unfold Own; rw [HA.out]; simpa using hown'
                have R3 : Below w.heap.size w w3 := (hbel.alloc (by omega) _).trans (Own.gb (hown.alloc _) hgrow (by simp; omega))
                clear hown' hgrow hown hbel ce
                go_wp2
                go_roundw
                case rel => exact ⟨j + 1, by go_num, by omega, R1, R3⟩
                case measure => simp [intOf]; omega
              · have hjt : j = (t - 125).toNat := by omega
                have HJ := hide hjt
                clear hjt
                go_wp2
                go_roundw
                case rel =>
                  have hz := HR1.out
                  have hjt := HJ.out
                  refine ⟨k + 1 + 2, cpy d (t - 125).toNat out, by go_num, by omega, hjt ▸ hown, hbel, by rw [cpy_length]; omega, ?_⟩
                  have e := unp_c4 most t r out (by omega) (by omega) Hnot.out (by omega)
                  unfold Hid
                  rw [HDR.out, Int.toNat_natCast] at e
                  rw [← List.drop_drop, HR0.out, ← e]
                  exact HU2.out
                case measure => simp [intOf]; omega
    · obtain rfl : k = zs.length := by omega
      go_wp2
      go_ret2
      refine ⟨_, _, rfl, ?_, hbel⟩
      have := HU.out
      rw [List.drop_length, unp_nil] at this
      rw [← this]
      exact ⟨hown, rfl⟩
end Go.Proofs.YtjafmnpobalepaaDoor
