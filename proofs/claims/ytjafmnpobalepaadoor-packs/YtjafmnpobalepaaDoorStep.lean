/-
  packing.readPlain, readCopy, readStep: walks.
-/
import Derived.Test.YtjafmnpobalepaaDoorProg
import Derived.Test.YtjafmnpobalepaaDoorMath
import Derived.WalkKit
import Derived.BigQuiet
import Derived.Deep.QuietTactic
import Derived.WalkLawsBesides
import Derived.Laws.BitsAllLaws
namespace Go.Proofs.YtjafmnpobalepaaDoor
open Go.RowKit

theorem or_bytes_nat (x y : Nat) (hx : x < 256) (hy : y < 256) : bits .or .i64 ((x : Int) * 256) (y : Int) = (x : Int) * 256 + y := by
  have e : ((x : Int) * 256) = ((x * 256 : Nat) : Int) := by omega
  have ha : ∀ a : Nat, a < 65536 → (BitVec.ofInt 64 (a : Int)).toNat = a := fun a ha => by
    rw [BitVec.ofInt_natCast, BitVec.toNat_ofNat]; exact Nat.mod_eq_of_lt (by omega)
  rw [e]
  show IntKind.i64.wrap ((BitVec.ofInt 64 ((x * 256 : Nat) : Int) ||| BitVec.ofInt 64 (y : Int)).toNat : Int) = _
  rw [BitVec.toNat_or, ha _ (by omega), ha _ (by omega)]
  have h1 : x * 256 ||| y = x * 256 + y := by
    have := Nat.shiftLeft_add_eq_or_of_lt (i := 8) (b := y) (by omega) x
    rw [Nat.shiftLeft_eq] at this
    exact this.symm
  rw [h1]
  simp only [IntKind.wrap, IntKind.bits, IntKind.signed]
  simp
  omega
theorem or_bytes (x y : Int) (h1 : 0 ≤ x) (h2 : x ≤ 255) (h3 : 0 ≤ y) (h4 : y ≤ 255) : bits .or .i64 (x * 256) y = x * 256 + y := by
  obtain ⟨A, rfl⟩ := Int.eq_ofNat_of_zero_le h1
  obtain ⟨B, rfl⟩ := Int.eq_ofNat_of_zero_le h3
  exact or_bytes_nat A B (by omega) (by omega)

theorem bcell {W w1 : World} (hb : Below W.heap.size W w1) : (∀ b o, b < W.heap.size → w1.cell? ⟨b, o, none⟩ = W.cell? ⟨b, o, none⟩) ∧ (∀ b o, b < W.heap.size → w1.frozen? ⟨b, o, none⟩ = W.frozen? ⟨b, o, none⟩) :=
  ⟨fun b o h => hb.cell (p := ⟨b, o, none⟩) h, fun b o h => hb.frozen (p := ⟨b, o, none⟩) h⟩

/-- A new block of four cells, behind a call that makes memory alone, written over. -/
theorem below_four {w w' : World} {O : Obj} (hb : Below (w.alloc O).heap.size (w.alloc O) w') (v0 v1 v2 v3 : Value) :
    Below w.heap.size w ((((w'.setCell ⟨w.heap.size, 0, none⟩ v0).setCell ⟨w.heap.size, 1, none⟩ v1).setCell ⟨w.heap.size, 2, none⟩ v2).setCell ⟨w.heap.size, 3, none⟩ v3) :=
  (((((((Below.refl _ _).alloc (Nat.le_refl _) O).trans (hb.mono (by simp))).setCell (Nat.le_refl _) _).setCell (Nat.le_refl _) _).setCell (Nat.le_refl _) _).setCell (Nat.le_refl _) _)

theorem plain_no (ao : Option Addr) (n c : Nat) (k : Int) (w : World) (h : (n : Int) < k) :
    Calls Tryd.prog 30 #[.slice ao n c, .int .i64 k] w fun e w' => e = .returned (.tuple #[.agg #[.int .i64 0, .int .i64 0, .slice none 0 0, .int .i64 0], .bool false]) ∧ Below w.heap.size w w' := by
  go_enter Tryd.func30, Tryd.ntmps30
  go_wp2
  exact bodyPost_ret (v := .tuple #[.agg #[.int .i64 0, .int .i64 0, .slice none 0 0, .int .i64 0], .bool false]) (by simp [results, Tryd.results30, go_sem]) rfl ⟨rfl, (Below.refl _ _).alloc (Nat.le_refl _) _⟩

theorem plain_yes (a : Addr) (n c : Nat) (k : Int) (w : World) (hc : n ≤ c) (h0 : 1 ≤ k) (hk : k ≤ 128) (h : ¬ (n : Int) < k) :
    Calls Tryd.prog 30 #[.slice (some a) n c, .int .i64 k] w fun e w' => e = .returned (.tuple #[.agg #[.int .i64 (1 + k), .int .i64 k, .slice (some a) k.toNat c, .int .i64 0], .bool true]) ∧ Below w.heap.size w w' := by
  have hkc : k ≤ (c : Int) := by omega
  go_enter Tryd.func30, Tryd.ntmps30
  go_wp2
  exact bodyPost_ret (v := .tuple #[.agg #[.int .i64 (1 + k), .int .i64 k, .slice (some a) k.toNat c, .int .i64 0], .bool true]) (by simp [results, Tryd.results30, go_sem]) rfl ⟨rfl, (Below.refl _ _).alloc (Nat.le_refl _) _⟩

theorem copy_no (ao : Option Addr) (n c : Nat) (k : Int) (w : World) (h : n < 2) :
    Calls Tryd.prog 31 #[.slice ao n c, .int .i64 k] w fun e w' => e = .returned (.tuple #[.agg #[.int .i64 0, .int .i64 0, .slice none 0 0, .int .i64 0], .bool false]) ∧ Below w.heap.size w w' := by
  go_enter Tryd.func31, Tryd.ntmps31
  go_wp2
  exact bodyPost_ret (v := .tuple #[.agg #[.int .i64 0, .int .i64 0, .slice none 0 0, .int .i64 0], .bool false]) (by simp [results, Tryd.results31, go_sem]) rfl ⟨rfl, (Below.refl _ _).alloc (Nat.le_refl _) _⟩

theorem copy_yes (b off n c : Nat) (k x y : Int) (w : World) (h : 2 ≤ n) (hx : 0 ≤ x) (hx' : x ≤ 255) (hy : 0 ≤ y) (hy' : y ≤ 255)
    (c0 : w.cell? ⟨b, off, none⟩ = some (.int .u8 x)) (c1 : w.cell? ⟨b, off + 1, none⟩ = some (.int .u8 y)) :
    Calls Tryd.prog 31 #[.slice (some ⟨b, off, none⟩) n c, .int .i64 k] w fun e w' => e = .returned (.tuple #[.agg #[.int .i64 3, .int .i64 k, .slice none 0 0, .int .i64 (x * 256 + y)], .bool (decide (0 < x * 256 + y))]) ∧ Below w.heap.size w w' := by
  have hb : b < w.heap.size := World.block_lt_of_cell? w _ c0
  have d0 : (w.alloc (.cells #[.int .i64 0, .int .i64 0, .slice none 0 0, .int .i64 0] 42)).cell? ⟨b, off, none⟩ = some (.int .u8 x) := by
    rw [World.cell?_alloc_lt _ _ ⟨b, off, none⟩ hb]; exact c0
  have d1 : (w.alloc (.cells #[.int .i64 0, .int .i64 0, .slice none 0 0, .int .i64 0] 42)).cell? ⟨b, off + 1, none⟩ = some (.int .u8 y) := by
    rw [World.cell?_alloc_lt _ _ ⟨b, off + 1, none⟩ hb]; exact c1
  have g0 : (0 : Int) < (n : Int) := by omega
  have g1 : (1 : Int) < (n : Int) := by omega
  have hor := or_bytes x y hx hx' hy hy'
  go_enter Tryd.func31, Tryd.ntmps31
  go_wp2
  go_quiet (fail)
  go_wp2
  refine bodyPost_ret (v := .tuple #[.agg #[.int .i64 3, .int .i64 k, .slice none 0 0, .int .i64 (x * 256 + y)], .bool (decide (0 < x * 256 + y))]) (by simp [results, Tryd.results31, go_sem]) rfl ⟨rfl, ?_⟩
  refine Below.setCell (Below.setCell (Below.setCell (Below.setCell (below_drewN ?_ _) (by simp) _) (by simp) _) (by simp) _) (by simp) _
  exact (Below.refl _ _).alloc (Nat.le_refl _) _

/-- readStep: a plain step of which bytes are missing. -/
theorem step_p1 (b off n c : Nat) (t : Int) (w : World) (_hn : n + 1 ≤ c) (h0 : 0 ≤ t) (ht : t < 128) (h : (n : Int) < t + 1)
    (c0 : w.cell? ⟨b, off, none⟩ = some (.int .u8 t)) :
    Calls Tryd.prog 19 #[.slice (some ⟨b, off, none⟩) (n + 1) c] w fun e w' => e = .returned (.tuple #[.agg #[.int .i64 0, .int .i64 0, .slice none 0 0, .int .i64 0], .bool false]) ∧ Below w.heap.size w w' := by
  have hb : b < w.heap.size := World.block_lt_of_cell? w _ c0
  have g0 : (0 : Int) < ((n + 1 : Nat) : Int) := by omega
  go_enter Tryd.func19, Tryd.ntmps19
  go_wp2_with (go_at_call 30; refine (plain_no _ _ _ _ _ h).mono ?_; rintro e w' ⟨rfl, hb1⟩; obtain ⟨hcx, hfx⟩ := bcell hb1)
  all_goals exact bodyPost_ret (v := .tuple #[.agg #[.int .i64 0, .int .i64 0, .slice none 0 0, .int .i64 0], .bool false]) (by simp [results, Tryd.results19, go_sem, hcx]) rfl ⟨rfl, below_four hb1 _ _ _ _⟩
/-- A plain step. -/
theorem step_p2 (b off n c : Nat) (t : Int) (w : World) (hn : n + 1 ≤ c) (h0 : 0 ≤ t) (ht : t < 128) (h : ¬ (n : Int) < t + 1)
    (c0 : w.cell? ⟨b, off, none⟩ = some (.int .u8 t)) :
    Calls Tryd.prog 19 #[.slice (some ⟨b, off, none⟩) (n + 1) c] w fun e w' => e = .returned (.tuple #[.agg #[.int .i64 (1 + (t + 1)), .int .i64 (t + 1), .slice (some ⟨b, off + 1, none⟩) (t + 1).toNat (c - 1), .int .i64 0], .bool true]) ∧ Below w.heap.size w w' := by
  have hb : b < w.heap.size := World.block_lt_of_cell? w _ c0
  have g0 : (0 : Int) < ((n + 1 : Nat) : Int) := by omega
  have hc1 : ¬ c = 1 := by omega
  go_enter Tryd.func19, Tryd.ntmps19
  go_wp2_with (go_at_call 30; refine (plain_yes ⟨b, off + 1, none⟩ n (c - 1) (t + 1) _ (by omega) (by omega) (by omega) h).mono ?_; rintro e w' ⟨rfl, hb1⟩; obtain ⟨hcx, hfx⟩ := bcell hb1)
  all_goals exact bodyPost_ret (v := .tuple #[.agg #[.int .i64 (1 + (t + 1)), .int .i64 (t + 1), .slice (some ⟨b, off + 1, none⟩) (t + 1).toNat (c - 1), .int .i64 0], .bool true]) (by simp [results, Tryd.results19, go_sem, hcx]) rfl ⟨rfl, below_four hb1 _ _ _ _⟩
/-- A copy of which bytes are missing. -/
theorem step_c1 (b off n c : Nat) (t : Int) (w : World) (_hn : n + 1 ≤ c) (ht : ¬ t < 128) (ht' : t ≤ 255) (h : n < 2)
    (c0 : w.cell? ⟨b, off, none⟩ = some (.int .u8 t)) :
    Calls Tryd.prog 19 #[.slice (some ⟨b, off, none⟩) (n + 1) c] w fun e w' => e = .returned (.tuple #[.agg #[.int .i64 0, .int .i64 0, .slice none 0 0, .int .i64 0], .bool false]) ∧ Below w.heap.size w w' := by
  have hb : b < w.heap.size := World.block_lt_of_cell? w _ c0
  have g0 : (0 : Int) < ((n + 1 : Nat) : Int) := by omega
  go_enter Tryd.func19, Tryd.ntmps19
  go_wp2_with (go_at_call 31; refine (copy_no _ _ _ _ _ h).mono ?_; rintro e w' ⟨rfl, hb1⟩; obtain ⟨hcx, hfx⟩ := bcell hb1)
  all_goals exact bodyPost_ret (v := .tuple #[.agg #[.int .i64 0, .int .i64 0, .slice none 0 0, .int .i64 0], .bool false]) (by simp [results, Tryd.results19, go_sem, hcx]) rfl ⟨rfl, below_four hb1 _ _ _ _⟩
/-- A copy. -/
theorem step_c2 (b off n c : Nat) (t : Int) (x y : Int) (w : World) (hn : n + 1 ≤ c) (ht : ¬ t < 128) (ht' : t ≤ 255) (h : 2 ≤ n) (hx : 0 ≤ x) (hx' : x ≤ 255) (hy : 0 ≤ y) (hy' : y ≤ 255)
    (c0 : w.cell? ⟨b, off, none⟩ = some (.int .u8 t)) (c1 : w.cell? ⟨b, off + 1, none⟩ = some (.int .u8 x)) (c2 : w.cell? ⟨b, off + 2, none⟩ = some (.int .u8 y)) :
    Calls Tryd.prog 19 #[.slice (some ⟨b, off, none⟩) (n + 1) c] w fun e w' => e = .returned (.tuple #[.agg #[.int .i64 3, .int .i64 (t - 125), .slice none 0 0, .int .i64 (x * 256 + y)], .bool (decide (0 < x * 256 + y))]) ∧ Below w.heap.size w w' := by
  have hb : b < w.heap.size := World.block_lt_of_cell? w _ c0
  have g0 : (0 : Int) < ((n + 1 : Nat) : Int) := by omega
  have hc1 : ¬ c = 1 := by omega
  have e1 : (w.alloc (.cells #[.int .i64 0, .int .i64 0, .slice none 0 0, .int .i64 0] 42)).cell? ⟨b, off + 1, none⟩ = some (.int .u8 x) := by
    rw [World.cell?_alloc_lt _ _ ⟨b, off + 1, none⟩ hb]; exact c1
  have e2 : (w.alloc (.cells #[.int .i64 0, .int .i64 0, .slice none 0 0, .int .i64 0] 42)).cell? ⟨b, off + 1 + 1, none⟩ = some (.int .u8 y) := by
    rw [World.cell?_alloc_lt _ _ ⟨b, off + 1 + 1, none⟩ hb]; exact c2
  go_enter Tryd.func19, Tryd.ntmps19
  go_wp2_with (go_at_call 31; refine (copy_yes b (off + 1) n (c - 1) (t - 125) x y _ h hx hx' hy hy' e1 e2).mono ?_; rintro e w' ⟨rfl, hb1⟩; obtain ⟨hcx, hfx⟩ := bcell hb1)
  all_goals exact bodyPost_ret (v := .tuple #[.agg #[.int .i64 3, .int .i64 (t - 125), .slice none 0 0, .int .i64 (x * 256 + y)], .bool (decide (0 < x * 256 + y))]) (by simp [results, Tryd.results19, go_sem, hcx]) rfl ⟨rfl, below_four hb1 _ _ _ _⟩
theorem step_c3 (b off n c : Nat) (t x y : Int) (w : World) (hn : n + 1 ≤ c) (ht : ¬ t < 128) (ht' : t ≤ 255) (h : 2 ≤ n) (hx : 0 ≤ x) (hx' : x ≤ 255) (hy : 0 ≤ y) (hy' : y ≤ 255) (hd : x * 256 + y = 0)
    (c0 : w.cell? ⟨b, off, none⟩ = some (.int .u8 t)) (c1 : w.cell? ⟨b, off + 1, none⟩ = some (.int .u8 x)) (c2 : w.cell? ⟨b, off + 2, none⟩ = some (.int .u8 y)) :
    Calls Tryd.prog 19 #[.slice (some ⟨b, off, none⟩) (n + 1) c] w fun e w' => e = .returned (.tuple #[.agg #[.int .i64 3, .int .i64 (t - 125), .slice none 0 0, .int .i64 0], .bool false]) ∧ Below w.heap.size w w' := by
  have hh := step_c2 b off n c t x y w hn ht ht' h hx hx' hy hy' c0 c1 c2
  rw [hd] at hh
  exact hh
theorem step_c4 (b off n c d : Nat) (t x y : Int) (w : World) (hn : n + 1 ≤ c) (ht : ¬ t < 128) (ht' : t ≤ 255) (h : 2 ≤ n) (hx : 0 ≤ x) (hx' : x ≤ 255) (hy : 0 ≤ y) (hy' : y ≤ 255) (hd : x * 256 + y = d) (hd0 : 0 < d)
    (c0 : w.cell? ⟨b, off, none⟩ = some (.int .u8 t)) (c1 : w.cell? ⟨b, off + 1, none⟩ = some (.int .u8 x)) (c2 : w.cell? ⟨b, off + 2, none⟩ = some (.int .u8 y)) :
    Calls Tryd.prog 19 #[.slice (some ⟨b, off, none⟩) (n + 1) c] w fun e w' => e = .returned (.tuple #[.agg #[.int .i64 3, .int .i64 (t - 125), .slice none 0 0, .int .i64 d], .bool true]) ∧ Below w.heap.size w w' := by
  have hh := step_c2 b off n c t x y w hn ht ht' h hx hx' hy hy' c0 c1 c2
  rw [hd, show decide ((0 : Int) < (d : Int)) = true from by simp; omega] at hh
  exact hh
end Go.Proofs.YtjafmnpobalepaaDoor
