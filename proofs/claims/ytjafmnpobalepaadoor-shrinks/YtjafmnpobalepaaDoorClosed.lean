/-
  segmentslaw.packs: the closed fact.
-/
import Derived.Test.YtjafmnpobalepaaDoorAs
import Derived.Test.YtjafmnpobalepaaDoorUnp
import Derived.Test.YtjafmnpobalepaaDoorHelp
import Derived.Laws.BytesArg
namespace Go.Proofs.YtjafmnpobalepaaDoor
open Go.RowKit

theorem unp_abab : unp 6 [1, 97, 98, 129, 0, 2] [] = .inr [97, 98, 97, 98, 97, 98] := by decide

set_option maxRecDepth 20000 in
set_option maxHeartbeats 800000 in
theorem packs_ok (w : World) : Calls Tryd.prog 15 #[] w fun e w' => e = .returned (.bool true) ∧ Below w.heap.size w w' := by
  have hsl : Sl (w.alloc (.cells #[.int .u8 1, .int .u8 97, .int .u8 98, .int .u8 129, .int .u8 0, .int .u8 2] 5)) (some ⟨w.heap.size, 0, none⟩) 6 [1, 97, 98, 129, 0, 2] := by
    refine ⟨by decide, fun _ => ⟨w.heap.size, 0, rfl, fun i hi => ?_⟩⟩
    rw [Nat.zero_add, World.cell?_alloc_new]
    simp only [List.length_cons, List.length_nil] at hi
    match i, hi with
    | 0, _ => rfl
    | 1, _ => rfl
    | 2, _ => rfl
    | 3, _ => rfl
    | 4, _ => rfl
    | 5, _ => rfl
  have hby : Byt [1, 97, 98, 129, 0, 2] := by
    intro z hz
    simp only [List.mem_cons, List.not_mem_nil, or_false] at hz
    rcases hz with rfl | rfl | rfl | rfl | rfl | rfl <;> exact ⟨by decide, by decide⟩
  have hun := unpack_seg (some ⟨w.heap.size, 0, none⟩) 6 [1, 97, 98, 129, 0, 2] 6 _ hsl hby (by decide) (by decide)
  rw [unp_abab] at hun
  have HU := hide hun
  clear hun hsl hby
  go_enter Tryd.func15, Tryd.ntmps15
  go_wp2_with fail
  refine HU.out.mono ?_
  rintro e w1 ⟨pv, ev, rfl, ho, hb1⟩
  obtain ⟨ho, rfl⟩ := ho
  go_wp2_with fail
  refine (tell_nil _).mono ?_
  rintro e w2 ⟨rfl, hb2⟩
  have ho2 := ho.below hb2
  obtain ⟨g, cap, rfl, _, _, _, _, hc⟩ := ho2.form (by decide)
  have hconv := run_convert_bytes_arg (P := Tryd.prog) w2 22 5 Tryd.underlying22 Tryd.underlying5 g 0 6 cap [97, 98, 97, 98, 97, 98] rfl (fun i hi => by rw [Nat.zero_add]; exact hc i hi) 9 Tryd.underlying9
  have hS : strOfNums [97, 98, 97, 98, 97, 98] = ⟨#[97, 98, 97, 98, 97, 98]⟩ := rfl
  rw [hS] at hconv
  have hbt : Below w.heap.size w w2 := ((((Below.refl _ _).alloc (Nat.le_refl _) _).trans (hb1.mono (by simp))).trans (hb2.mono (by have := hb1.size; simp at this; omega)))
  clear hS hc ho ho2 hb1 hb2 HU
  go_wp2
  go_ret
  exact ⟨rfl, hbt⟩
end Go.Proofs.YtjafmnpobalepaaDoor
