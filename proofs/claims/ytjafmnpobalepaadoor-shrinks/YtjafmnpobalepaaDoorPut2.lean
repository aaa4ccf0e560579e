/-
  putPlain, putCopy: walks.
-/
import Derived.Test.YtjafmnpobalepaaDoorOwn
import Derived.Test.YtjafmnpobalepaaDoorPackMath
import Derived.BigQuiet
import Derived.WalkLawsBesides
import Derived.WalkSpells
namespace Go.Proofs.YtjafmnpobalepaaDoor
open Go.RowKit

/-- Bytes that came in, in a block below 'base'. -/
def SlB (w : World) (base : Nat) (ao : Option Addr) (c : Nat) (zs : List Int) : Prop :=
  zs.length ≤ c ∧ (zs ≠ [] → ∃ b off, ao = some ⟨b, off, none⟩ ∧ b < base ∧ ∀ i, i < zs.length → w.cell? ⟨b, off + i, none⟩ = some (.int .u8 (zs.getD i 0)))

theorem SlB.cut {w : World} {base b off c l : Nat} {zs : List Int} (hb : b < base) (hc : zs.length ≤ c) (h : ∀ i, i < zs.length → w.cell? ⟨b, off + i, none⟩ = some (.int .u8 (zs.getD i 0)))
    {ao : Option Addr} (hao : ¬ c = l → ao = some ⟨b, off + l, none⟩) : SlB w base ao (c - l) (zs.drop l) := by
  refine ⟨by simp; omega, fun hne => ?_⟩
  have hlt : l < zs.length := by
    rcases Nat.lt_or_ge l zs.length with h | h
    · exact h
    · exact absurd (List.drop_eq_nil_of_le h) hne
  refine ⟨b, off + l, hao (by omega), hb, fun i hi => ?_⟩
  simp only [List.length_drop] at hi
  rw [Nat.add_assoc, h (l + i) (by omega)]
  simp [List.getD_eq_getElem?_getD]

theorem slice_len {ao : Option Addr} {n n' c : Nat} (h : n = n') : Value.slice ao n c = .slice ao n' c := by rw [h]

theorem cell_list_new (w : World) (L : List Value) (t : TypeId) : ∀ j u, L[j]? = some u → (w.alloc (.cells L.toArray t)).cell? ((⟨w.heap.size, 0, none⟩ : Addr).add j) = some u := by
  intro j u h
  rw [Addr.add_lit, Nat.zero_add, World.cell?_alloc_new]
  simpa using h

set_option maxRecDepth 20000 in
set_option maxHeartbeats 400000 in
theorem putCopy_any (base d n : Nat) (v : Value) (out : List Int) (w : World) (hbase : base ≤ w.heap.size) (hown : Own w base v out) (hd : d ≤ 65535) (hn : n ≤ 130) (hlen : out.length ≤ 16777216) :
    Calls Tryd.prog 29 #[v, .int .i64 d, .int .i64 n] w fun e w' => ∃ v', e = .returned v' ∧ Own w' base v' (out ++ enc3 d n) ∧ w.grownBy w' v.ownBlock := by
  obtain ⟨i0, hi, hz0, hz1, hz2⟩ := info_parts Tryd.infoB
  go_enter Tryd.func29, Tryd.ntmps29
  go_wp2_with (at_builtin; refine wpList_append_own _ rfl _ _ 22 rfl base 5 i0 (.int .u8 0) 1 1 Tryd.underlying22 hi hz0 hz1 hz2 rfl (by decide) v out.length (out.map (Value.int .u8)) rfl (hown.alloc _) ⟨w.heap.size, 0, none⟩ 3 3 [.int .u8 ((n : Int) + 125), .int .u8 ((d : Int) / 256), .int .u8 ((d : Int) % 256)] rfl rfl (cell_list_new w _ _) ?_ ?_ ?_ ?_ ?_)
  · intro u hu; simp at hu; rcases hu with rfl | rfl | rfl <;> rfl
  · unfold maxLen; omega
  · omega
  · simp; omega
  intro v' w1 hown' hgrow _
  go_wp2
  go_ret
  refine ⟨v', rfl, ?_, (World.grownBy_alloc w _ _).trans hgrow⟩
  unfold Own
  simpa [enc3] using hown'

/-- A slice's length, for a loop's measure. -/
def lenS : Value → Nat | .slice _ n _ => n | _ => 0

set_option maxRecDepth 20000 in
set_option maxHeartbeats 2000000 in
theorem putPlain_any (base : Nat) (ao : Option Addr) (c : Nat) (v : Value) (out ms0 : List Int) (w : World) (hbase : base ≤ w.heap.size) (hown : Own w base v out) (hsl : SlB w base ao c ms0) (hlen : out.length + 2 * ms0.length ≤ 33554432) :
    Calls Tryd.prog 28 #[v, .slice ao ms0.length c] w fun e w' => ∃ v', e = .returned v' ∧ Own w' base v' (out ++ pln ms0) ∧ w.grownBy w' v.ownBlock := by
  obtain ⟨i0, hi, hz0, hz1, hz2⟩ := info_parts Tryd.infoB
  have hvb := hown.blk
  go_enter Tryd.func28, Tryd.ntmps28
  go_wp2
  go_loopw [0, 1] (fun v0 v1 wr => ∃ ao1 c1 ms o1, v1 = .slice ao1 ms.length c1 ∧ o1.length + 2 * ms.length ≤ 33554432 ∧ SlB w base ao1 c1 ms ∧ Own wr base v0 o1 ∧ w.grownBy wr v.ownBlock ∧ OB w v v0 ∧ Hid (o1 ++ pln ms = out ++ pln ms0)) (fun _ v1 _ => lenS v1)
  case atStart => exact ⟨ao, c, ms0, out, rfl, hlen, hsl, hown, World.grownBy.refl _ _, Or.inl rfl, rfl⟩
  case round =>
    clear hsl hown hlen
    obtain ⟨ao1, c1, ms, o1, rfl, hlen, hsl, hown, hgb, hob, HE⟩ := hrel
    by_cases hms : ms = []
    · subst hms
      go_wp2
      go_ret
      refine ⟨_, rfl, ?_, hgb⟩
      rw [← HE.out, pln_nil, List.append_nil]; exact hown
    · obtain ⟨b, off, rfl, hb, hcells⟩ := hsl.2 hms
      have hc1 := hsl.1
      have h1 : 0 < ms.length := List.length_pos_iff.2 hms
      have hsz := hgb.size
      clear hsl
      by_cases hle : ms.length ≤ 128
      · have hct : (ms.length : Int) ≤ 128 := by omega
        have hcn : (ms.take ms.length).length = ms.length := by rw [List.length_take]; omega
        have hcc : ∀ i, i < (ms.take ms.length).length → w.cell? ⟨b, off + i, none⟩ = some (.int .u8 ((ms.take ms.length).getD i 0)) := fun i h => by
          rw [hcn] at h
          rw [hcells i (by omega)]
          simp [List.getD_eq_getElem?_getD, h]
        have HCN := hide hcn
        have HCC := hide hcc
        have hpl : pln ms = ((ms.length : Int) - 1) :: (ms.take ms.length ++ pln (ms.drop ms.length)) := by
          have := pln_cons hms
          rw [show min ms.length 128 = ms.length from by omega] at this
          exact this
        have HPL := hide hpl
        clear hcn hcc hpl
        go_wp2_with (at_builtin; refine wpList_append_own_at _ rfl _ _ 22 rfl base 5 i0 (.int .u8 0) 1 1 Tryd.underlying22 hi hz0 hz1 hz2 rfl (by decide) _ o1.length (o1.map (Value.int .u8)) rfl (hown.alloc _) ⟨wr.heap.size, 0, none⟩ 1 1 [.int .u8 ((ms.length : Int) - 1)] rfl rfl (cell_one_new _ _ _) ?_ ?_ ?_ ?_ ?_)
        · intro u hu; simp at hu; subst hu; rfl
        · unfold maxLen; omega
        · omega
        · simp; omega
        intro v1 w1 hown1 hgrow1 _ hat1
        have ho1 : Own w1 base v1 (o1 ++ [(ms.length : Int) - 1]) := by unfold Own; simpa using hown1
        have hg1 : w.grownBy w1 v.ownBlock := grown_trans hgb hob ((World.grownBy_alloc wr _ _).trans hgrow1)
        have hob1 : OB w v v1 := OB.step hob (by omega) hat1
        have hz1' := hgrow1.size
        have hzw := hg1.size
        have hcc1 : ∀ i, i < (ms.take ms.length).length → w1.cell? ⟨b, off + i, none⟩ = some (.int .u8 ((ms.take ms.length).getD i 0)) := fun i h => by
          have := HCC.out i h
          rw [← this]
          exact World.cell?_of_block (a := ⟨b, off + i, none⟩) (hg1.block b (by omega) (fun e => by have := hvb b e.symm; omega))
        have HC1 := hide hcc1
        clear hown1 hgrow1 hat1 hown hgb hob hcc1 hz1'
        go_wp2_with (at_builtin; refine wpList_append_own_at _ rfl _ _ 22 rfl base 5 i0 (.int .u8 0) 1 1 Tryd.underlying22 hi hz0 hz1 hz2 rfl (by decide) _ (o1 ++ [(ms.length : Int) - 1]).length ((o1 ++ [(ms.length : Int) - 1]).map (Value.int .u8)) rfl ho1 ⟨b, off, none⟩ ms.length c1 ((ms.take ms.length).map (Value.int .u8)) rfl ?_ (news_cells HC1.out) (ints_oneCell _ _) ?_ ?_ ?_ ?_)
        · rw [List.length_map, HCN.out]; try omega
        · unfold maxLen; rw [List.length_append]; simp; omega
        · rw [List.length_append]; simp; omega
        · omega
        intro v2 w2 hown2 hgrow2 _ hat2
        have hl2 : (o1 ++ [(ms.length : Int) - 1] ++ ms.take ms.length).length = o1.length + 1 + ms.length := by rw [List.length_append, HCN.out, List.length_append]; rfl
        have ho2 : Own w2 base v2 (o1 ++ [(ms.length : Int) - 1] ++ ms.take ms.length) := by unfold Own; rw [hl2]; simpa using hown2
        clear hl2
        have hg2 : w.grownBy w2 v.ownBlock := grown_trans hg1 hob1 hgrow2
        have hob2 : OB w v v2 := OB.step hob1 (by omega) hat2
        clear hown2 hgrow2 hat2 ho1 hg1 hob1
        go_wp2
        go_roundw
        case rel =>
          refine ⟨_, _, ms.drop ms.length, o1 ++ [(ms.length : Int) - 1] ++ ms.take ms.length, slice_len (by rw [List.length_drop]; try omega), ?_, SlB.cut hb hc1 hcells (fun h => by first | rfl | rw [if_neg h]), ho2, hg2, hob2, ?_⟩
          · rw [List.length_append, List.length_append, HCN.out, List.length_drop]; simp; omega
          · unfold Hid
            rw [← HE.out, HPL.out]
            simp
        case measure => simp [lenS]; omega
      · have hct : (128 : Int) < (ms.length : Int) := by omega
        have hcn : (ms.take 128).length = 128 := by rw [List.length_take]; omega
        have hcc : ∀ i, i < (ms.take 128).length → w.cell? ⟨b, off + i, none⟩ = some (.int .u8 ((ms.take 128).getD i 0)) := fun i h => by
          rw [hcn] at h
          rw [hcells i (by omega)]
          simp [List.getD_eq_getElem?_getD, h]
        have HCN := hide hcn
        have HCC := hide hcc
        have hpl : pln ms = ((128 : Int) - 1) :: (ms.take 128 ++ pln (ms.drop 128)) := by
          have := pln_cons hms
          rw [show min ms.length 128 = 128 from by omega] at this
          exact this
        have HPL := hide hpl
        clear hcn hcc hpl
        go_wp2_with (at_builtin; refine wpList_append_own_at _ rfl _ _ 22 rfl base 5 i0 (.int .u8 0) 1 1 Tryd.underlying22 hi hz0 hz1 hz2 rfl (by decide) _ o1.length (o1.map (Value.int .u8)) rfl (hown.alloc _) ⟨wr.heap.size, 0, none⟩ 1 1 [.int .u8 ((128 : Int) - 1)] rfl rfl (cell_one_new _ _ _) ?_ ?_ ?_ ?_ ?_)
        · intro u hu; simp at hu; subst hu; rfl
        · unfold maxLen; omega
        · omega
        · simp; omega
        intro v1 w1 hown1 hgrow1 _ hat1
        have ho1 : Own w1 base v1 (o1 ++ [(128 : Int) - 1]) := by unfold Own; simpa using hown1
        have hg1 : w.grownBy w1 v.ownBlock := grown_trans hgb hob ((World.grownBy_alloc wr _ _).trans hgrow1)
        have hob1 : OB w v v1 := OB.step hob (by omega) hat1
        have hz1' := hgrow1.size
        have hzw := hg1.size
        have hcc1 : ∀ i, i < (ms.take 128).length → w1.cell? ⟨b, off + i, none⟩ = some (.int .u8 ((ms.take 128).getD i 0)) := fun i h => by
          have := HCC.out i h
          rw [← this]
          exact World.cell?_of_block (a := ⟨b, off + i, none⟩) (hg1.block b (by omega) (fun e => by have := hvb b e.symm; omega))
        have HC1 := hide hcc1
        clear hown1 hgrow1 hat1 hown hgb hob hcc1 hz1'
        go_wp2_with (at_builtin; refine wpList_append_own_at _ rfl _ _ 22 rfl base 5 i0 (.int .u8 0) 1 1 Tryd.underlying22 hi hz0 hz1 hz2 rfl (by decide) _ (o1 ++ [(128 : Int) - 1]).length ((o1 ++ [(128 : Int) - 1]).map (Value.int .u8)) rfl ho1 ⟨b, off, none⟩ 128 c1 ((ms.take 128).map (Value.int .u8)) rfl ?_ (news_cells HC1.out) (ints_oneCell _ _) ?_ ?_ ?_ ?_)
        · rw [List.length_map, HCN.out]; try omega
        · unfold maxLen; rw [List.length_append]; simp; omega
        · rw [List.length_append]; simp; omega
        · omega
        intro v2 w2 hown2 hgrow2 _ hat2
        have hl2 : (o1 ++ [(128 : Int) - 1] ++ ms.take 128).length = o1.length + 1 + 128 := by rw [List.length_append, HCN.out, List.length_append]; rfl
        have ho2 : Own w2 base v2 (o1 ++ [(128 : Int) - 1] ++ ms.take 128) := by unfold Own; rw [hl2]; simpa using hown2
        clear hl2
        have hg2 : w.grownBy w2 v.ownBlock := grown_trans hg1 hob1 hgrow2
        have hob2 : OB w v v2 := OB.step hob1 (by omega) hat2
        clear hown2 hgrow2 hat2 ho1 hg1 hob1
        go_wp2
        go_roundw
        case rel =>
          refine ⟨_, _, ms.drop 128, o1 ++ [(128 : Int) - 1] ++ ms.take 128, slice_len (by rw [List.length_drop]; try omega), ?_, SlB.cut hb hc1 hcells (fun h => by first | rfl | rw [if_neg h]), ho2, hg2, hob2, ?_⟩
          · rw [List.length_append, List.length_append, HCN.out, List.length_drop]; simp; omega
          · unfold Hid
            rw [← HE.out, HPL.out]
            simp
        case measure => simp [lenS]; omega
end Go.Proofs.YtjafmnpobalepaaDoor
