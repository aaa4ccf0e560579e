/-
  (step).putOut: walks.
-/
import Derived.Test.YtjafmnpobalepaaDoorOwn
import Derived.BigQuiet
import Derived.WalkLawsBesides
import Derived.WalkSpells
namespace Go.Proofs.YtjafmnpobalepaaDoor
open Go.RowKit

theorem put_plain (base b off m c : Nat) (sz cnt : Int) (v : Value) (out new : List Int) (w : World) (hbase : base ≤ w.heap.size) (hown : Own w base v out)
    (hm : new.length = m) (hcell : ∀ i, i < new.length → w.cell? ⟨b, off + i, none⟩ = some (.int .u8 (new.getD i 0))) (hlen : out.length + m ≤ 4194304) :
    Calls Tryd.prog 20 #[.agg #[.int .i64 sz, .int .i64 cnt, .slice (some ⟨b, off, none⟩) m c, .int .i64 0], v] w fun e w' => ∃ v', e = .returned v' ∧ Own w' base v' (out ++ new) ∧ w.grownBy w' v.ownBlock := by
  obtain ⟨i0, hi, hz0, hz1, hz2⟩ := info_parts Tryd.infoB
  have hcell' : ∀ i, i < new.length → (w.alloc (.cells #[.int .i64 sz, .int .i64 cnt, .slice (some ⟨b, off, none⟩) m c, .int .i64 0] 42)).cell? ⟨b, off + i, none⟩ = some (.int .u8 (new.getD i 0)) := fun i h => by
    rw [World.cell?_alloc_lt _ _ ⟨b, off + i, none⟩ (World.block_lt_of_cell? w _ (hcell i h))]; exact hcell i h
  have hown1 := hown.alloc (.cells #[.int .i64 sz, .int .i64 cnt, .slice (some ⟨b, off, none⟩) m c, .int .i64 0] 42)
  have Hm : Hid (new.length = m) := hm
  clear hm
  go_enter Tryd.func20, Tryd.ntmps20
  go_wp2_with (at_builtin; refine wpList_append_own _ rfl _ _ 22 rfl base 5 i0 (.int .u8 0) 1 1 Tryd.underlying22 hi hz0 hz1 hz2 rfl (by decide) v out.length (out.map (Value.int .u8)) rfl hown1 ⟨b, off, none⟩ m c (new.map (Value.int .u8)) rfl ?c0 (news_cells hcell') (ints_oneCell _ _) ?c3 ?c4 ?c5 ?_)
  case c0 => simp [Hm.out]
  case c3 => unfold maxLen; omega
  case c4 => omega
  case c5 => simp; omega
  intro v' w1 hown' hgrow _
  go_wp2
  go_ret
  refine ⟨v', rfl, ?_, ?_⟩
  · unfold Own; simpa [Hm.out] using hown'
  · exact (World.grownBy_alloc w _ _).trans hgrow

set_option maxRecDepth 100000 in
set_option maxHeartbeats 800000 in
theorem put_copy (base cnt d : Nat) (sz : Int) (v : Value) (out : List Int) (w : World) (hbase : base ≤ w.heap.size) (hown : Own w base v out)
    (hd0 : 0 < d) (hd : d ≤ out.length) (hcnt : cnt ≤ 255) (hlen : out.length + cnt ≤ 4194304) :
    Calls Tryd.prog 20 #[.agg #[.int .i64 sz, .int .i64 cnt, .slice none 0 0, .int .i64 d], v] w fun e w' => ∃ v', e = .returned v' ∧ Own w' base v' (cpy d cnt out) ∧ w.grownBy w' v.ownBlock := by
  obtain ⟨i0, hi, hz0, hz1, hz2⟩ := info_parts Tryd.infoB
  have hd1 : ((d : Int) == 0) = false := by simp; omega
  have hdi : (1 : Int) ≤ (d : Int) := by omega
  have hown1 := hown.alloc (.cells #[.int .i64 sz, .int .i64 cnt, .slice none 0 0, .int .i64 d] 42)
  go_enter Tryd.func20, Tryd.ntmps20
  go_wp2
  go_loopw [1, 14] (fun u i wr => ∃ k : Nat, k ≤ cnt ∧ i = .int .i64 k ∧ Own wr base u (cpy d k out) ∧ wr.heap[w.heap.size]? = some (.cells #[.int .i64 sz, .int .i64 cnt, .slice none 0 0, .int .i64 d] 42 (0, 0)) ∧ w.grownBy wr v.ownBlock ∧ OB w v u)
    (fun _ i _ => cnt - (intOf i).toNat)
  case atStart => exact ⟨0, Nat.zero_le _, rfl, hown1, heap_alloc_new w _, World.grownBy_alloc w _ _, Or.inl rfl⟩
  case round =>
    obtain ⟨k, hk, rfl, hownk, hS, hbel, hob⟩ := hrel
    have hl : (cpy d k out).length = out.length + k := cpy_length d k out
    have hsucc : cpy d (k + 1) out = cpy d k out ++ [(cpy d k out).getD ((cpy d k out).length - d) 0] := cpy_succ d k out
    generalize hC : cpy d k out = C at *
    have HC : Hid (cpy d k out = C) := hC
    clear hC
    have HS : Hid (cpy d (k + 1) out = C ++ [C.getD (C.length - d) 0]) := hsucc
    clear hsucc
    obtain ⟨g, cap, rfl, hg1, hg2, hcap, hmax, hcell⟩ := hownk.form (by omega)
    have hl1 : C.length ≤ 4194304 := by omega
    have hl2 : d ≤ C.length := by omega
    have hl3 : k < cnt → C.length + 1 ≤ 4194304 := by omega
    have ce := hcell (C.length - d) (by omega)
    obtain ⟨x, hx⟩ : ∃ x, x = C.getD (C.length - d) 0 := ⟨_, rfl⟩
    rw [← hx] at ce
    have Hx : Hid (x = C.getD (C.length - d) 0) := hx
    have hne := hownk.other (by decide) hS
    have cd : wr.cell? ⟨w.heap.size, 3, none⟩ = some (.int .i64 d) := by rw [block_cell hS 3]; rfl
    have hsz := hbel.size
    clear hx hl hcell
    by_cases hlt : k < cnt
    · have hl4 := hl3 hlt
      clear hl3
      go_wp2_with (at_builtin; refine wpList_append_own_at _ rfl _ _ 22 rfl base 5 i0 (.int .u8 0) 1 1 Tryd.underlying22 hi hz0 hz1 hz2 rfl (by decide) (.slice (some ⟨g, 0, none⟩) C.length cap) C.length (C.map (Value.int .u8)) rfl (hownk.alloc _) ⟨wr.heap.size, 0, none⟩ 1 1 [.int .u8 x] rfl rfl (cell_one_new _ _ _) ?c2 ?c3 ?c4 ?c5 ?_)
      case c2 => intro u hu; simp at hu; subst hu; rfl
      case c3 => unfold maxLen; omega
      case c4 => omega
      case c5 => simp; omega
      intro v' w1 hown' hgrow _ hat
      have R1 : Own w1 base v' (cpy d (k + 1) out) := by
        unfold Own; rw [HS.out, ← Hx.out]; simpa using hown'
      have R2 : w1.heap[w.heap.size]? = some (.cells #[.int .i64 sz, .int .i64 cnt, .slice none 0 0, .int .i64 d] 42 (0, 0)) :=
        grown_block hgrow (alloc_block hS _) hne
      have R3 : w.grownBy w1 v.ownBlock := grown_trans hbel hob ((World.grownBy_alloc wr _ _).trans hgrow)
      have R4 : OB w v v' := OB.step hob (by omega) hat
      clear hown' hgrow hownk hS hbel ce cd HS Hx HC hob hat hne
      go_wp2
      go_roundw
      case rel => exact ⟨k + 1, by omega, by go_num, R1, R2, R3, R4⟩
      case measure => simp [intOf]; omega
    · obtain rfl : k = cnt := by omega
      go_wp2
      go_ret
      exact ⟨_, rfl, by rw [HC.out]; exact hownk, hbel⟩
end Go.Proofs.YtjafmnpobalepaaDoor
