/-
  Slices of bytes: those that came in (Sl), those that the call itself makes (Own).
-/
import Derived.Test.YtjafmnpobalepaaDoorProg
import Derived.Test.YtjafmnpobalepaaDoorMath
import Derived.WalkKit
import Derived.WalkSmall
import Derived.Maps.AppendAt
namespace Go.Proofs.YtjafmnpobalepaaDoor
open Go.RowKit

theorem hide {p : Prop} (h : p) : Hid p := h

/-- A slice's bytes, by its address and capacity. -/
def Sl (w : World) (ao : Option Addr) (c : Nat) (zs : List Int) : Prop :=
  zs.length ≤ c ∧ (zs ≠ [] → ∃ b off, ao = some ⟨b, off, none⟩ ∧ ∀ i, i < zs.length → w.cell? ⟨b, off + i, none⟩ = some (.int .u8 (zs.getD i 0)))

/-- Bytes that the call made, in a row of their own. -/
def Own (w : World) (base : Nat) (v : Value) (out : List Int) : Prop := w.ownsRow base 5 1 v out.length (out.map (Value.int .u8))

theorem Own.nil (w : World) (base : Nat) : Own w base (.slice none 0 0) [] := World.ownsRow_nil w base 5 1

theorem Own.form {w : World} {base : Nat} {v : Value} {out : List Int} (h : Own w base v out) (h0 : 0 < out.length) :
    ∃ g cap, v = .slice (some ⟨g, 0, none⟩) out.length cap ∧ base ≤ g ∧ g < w.heap.size ∧ out.length ≤ cap ∧ cap ≤ maxLen ∧ (∀ i, i < out.length → w.cell? ⟨g, i, none⟩ = some (.int .u8 (out.getD i 0))) := by
  have h' := h
  unfold Own at h'
  rcases h'.2 with ⟨_, hn⟩ | ⟨g, cap, cur, hv, hb, hg, h1, h2, _, _⟩
  · omega
  · refine ⟨g, cap, hv, hb, (Array.getElem?_eq_some_iff.1 hg).1, h1, h2, fun i hi => ?_⟩
    subst hv
    rw [World.ownsRow.cellAt h' i (by omega)]
    simp [List.getD_eq_getElem?_getD, hi]

/-- The form of what is owned, empty or not. -/
theorem Own.shape {w : World} {base : Nat} {v : Value} {out : List Int} (h : Own w base v out) :
    ∃ ao cap, v = .slice ao out.length cap ∧ out.length ≤ cap ∧ cap ≤ maxLen ∧ Sl w ao cap out ∧ (ao = none → out = [] ∧ cap = 0) := by
  by_cases h0 : 0 < out.length
  · obtain ⟨g, cap, hv, _, _, h1, h2, hc⟩ := h.form h0
    exact ⟨_, cap, hv, h1, h2, ⟨h1, fun _ => ⟨g, 0, rfl, fun i hi => by rw [Nat.zero_add]; exact hc i hi⟩⟩, fun e => by cases e⟩
  · obtain rfl : out = [] := List.eq_nil_of_length_eq_zero (by omega)
    unfold Own at h
    rcases h.2 with ⟨hv, _⟩ | ⟨g, cap, cur, hv, hb, hg, h1, h2, _, _⟩
    · exact ⟨none, 0, hv, Nat.le_refl _, Nat.zero_le _, ⟨Nat.le_refl _, fun h => absurd rfl h⟩, fun _ => ⟨rfl, rfl⟩⟩
    · exact ⟨_, cap, hv, h1, h2, ⟨h1, fun h => absurd rfl h⟩, fun e => by cases e⟩

theorem Own.alloc {w : World} {base : Nat} {v : Value} {out : List Int} (h : Own w base v out) (o : Obj) : Own (w.alloc o) base v out := World.ownsRow.alloc h o

/-- Behind what only makes memory. -/
theorem Own.below {w w' : World} {base : Nat} {v : Value} {out : List Int} (h : Own w base v out) (hb : Below w.heap.size w w') : Own w' base v out := by
  unfold Own at h ⊢
  exact h.kept (row := none) ⟨hb.os, hb.tape, hb.output, hb.size, fun k hk _ => hb.block k hk⟩ (by cases v.ownBlock <;> simp)

theorem Own.mono {w : World} {base base' : Nat} {v : Value} {out : List Int} (h : Own w base v out) (hb : base' ≤ base) : Own w base' v out := by
  unfold Own at h ⊢
  refine ⟨h.1, ?_⟩
  rcases h.2 with h | ⟨g, cap, cur, hv, h1, h2⟩
  · exact Or.inl h
  · exact Or.inr ⟨g, cap, cur, hv, by omega, h2⟩

/-- A block of another type is not that row. -/
theorem Own.other {w : World} {base : Nat} {v : Value} {out : List Int} (h : Own w base v out) {S : Nat} {cs : Array Value} {t : TypeId} (ht : t ≠ 5) (hS : w.heap[S]? = some (.cells cs t (0, 0))) : v.ownBlock ≠ some S := by
  intro e
  unfold Own at h
  rcases h.2 with ⟨rfl, _⟩ | ⟨g, cap, cur, rfl, _, hg, _⟩
  · simp [Value.ownBlock] at e
  · simp [Value.ownBlock] at e
    subst e
    rw [hg] at hS
    simp at hS
    exact ht hS.2.symm

theorem Own.blk {w : World} {base : Nat} {v : Value} {out : List Int} (h : Own w base v out) : ∀ k, v.ownBlock = some k → base ≤ k := fun k hk => (World.ownsRow.lt h k hk).1

theorem grown_block {w w' : World} {row : Option Nat} (hg : w.grownBy w' row) {S : Nat} {o : Obj} (hS : w.heap[S]? = some o) (hne : row ≠ some S) : w'.heap[S]? = some o := by
  rw [hg.block S (Array.getElem?_eq_some_iff.1 hS).1 (fun e => hne e.symm)]; exact hS

theorem alloc_block {w : World} {S : Nat} {o : Obj} (hS : w.heap[S]? = some o) (x : Obj) : (w.alloc x).heap[S]? = some o := by
  rw [Below.heap_alloc _ _ _ (Array.getElem?_eq_some_iff.1 hS).1]; exact hS

theorem block_cell {w : World} {S : Nat} {cs : Array Value} {t : TypeId} (hS : w.heap[S]? = some (.cells cs t (0, 0))) (j : Nat) : w.cell? ⟨S, j, none⟩ = cs[j]? := cell_of_row w S j cs t (0, 0) hS

theorem Sl.below {w w' : World} {ao : Option Addr} {c : Nat} {zs : List Int} (h : Sl w ao c zs) (hb : Below w.heap.size w w') : Sl w' ao c zs := by
  refine ⟨h.1, fun hne => ?_⟩
  obtain ⟨b, off, rfl, hc⟩ := h.2 hne
  exact ⟨b, off, rfl, fun i hi => by rw [hb.cell (p := ⟨b, off + i, none⟩) (World.block_lt_of_cell? w _ (hc i hi))]; exact hc i hi⟩

/-- Cells of a list of bytes, as the append laws ask for them. -/
theorem news_cells {w : World} {b off : Nat} {zs : List Int} (hc : ∀ i, i < zs.length → w.cell? ⟨b, off + i, none⟩ = some (.int .u8 (zs.getD i 0))) :
    ∀ j u, (zs.map (Value.int .u8))[j]? = some u → w.cell? ((⟨b, off, none⟩ : Addr).add j) = some u := by
  intro j u hu
  have hj : j < zs.length := by simpa using (List.getElem?_eq_some_iff.1 hu).1
  rw [Addr.add_lit, hc j hj]
  simpa [List.getD_eq_getElem?_getD, hj] using hu

/-- u lies where v lay, or in a block that is new since w. -/
def OB (w : World) (v u : Value) : Prop := u.ownBlock = v.ownBlock ∨ ∃ k, u.ownBlock = some k ∧ w.heap.size ≤ k

theorem grown_trans {w wr w1 : World} {v u : Value} (h : w.grownBy wr v.ownBlock) (ho : OB w v u) (h1 : wr.grownBy w1 u.ownBlock) : w.grownBy w1 v.ownBlock := by
  refine ⟨h1.os.trans h.os, h1.tape.trans h.tape, h1.output.trans h.output, Nat.le_trans h.size h1.size, fun k hk hne => ?_⟩
  have hku : some k ≠ u.ownBlock := by
    intro e
    rcases ho with h' | ⟨j, hj, hlt⟩
    · exact hne (e.trans h')
    · rw [hj] at e; cases e; omega
  exact (h1.block k (Nat.lt_of_lt_of_le hk h.size) hku).trans (h.block k hk hne)

theorem OB.step {w : World} {n : Nat} {v u u' : Value} (ho : OB w v u) (hs : w.heap.size ≤ n) (h : u'.ownBlock = u.ownBlock ∨ u'.ownBlock = some n) : OB w v u' := by
  rcases h with h | h
  · rcases ho with h' | ⟨j, hj, hlt⟩
    · exact Or.inl (h.trans h')
    · exact Or.inr ⟨j, h.trans hj, hlt⟩
  · exact Or.inr ⟨_, h, hs⟩

/-- Behind a call that writes one row alone, one of those from 'base' on. -/
theorem Own.gb {w w' : World} {base : Nat} {v : Value} {out : List Int} (h : Own w base v out) (hg : w.grownBy w' v.ownBlock) (hb : base ≤ w.heap.size) : Below base w w' :=
  (Below.refl _ _).grown hg hb h.blk

/-- A new block of another type is as it was behind a call that writes the row alone. -/
theorem Own.past {w w1 : World} {base : Nat} {v : Value} {out : List Int} {cs : Array Value} {t : TypeId} (h : Own w base v out) (ht : t ≠ 5) (hg : (w.alloc (.cells cs t)).grownBy w1 v.ownBlock) :
    w1.heap[w.heap.size]? = some (.cells cs t (0, 0)) :=
  grown_block hg (heap_alloc_new w _) (Own.other (h.alloc (.cells cs t)) ht (heap_alloc_new w (.cells cs t)))

theorem Tryd.infoB : (Tryd.prog.info? 5).map (fun i => (i.zero, i.size, i.bytes)) = some (some (.int .u8 0), 1, 1) := by kernel_rfl
end Go.Proofs.YtjafmnpobalepaaDoor
