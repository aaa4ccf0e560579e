/-
  The finder: its memory; newFinder, hashed, hash, reach, alike: walks.
-/
import Derived.Test.YtmogoephpefenaaDoorOwn
import Derived.BigQuiet
import Derived.Deep.QuietTactic
import Derived.WalkLawsBesides
import Derived.WalkSpells
import Derived.KernelRfl
namespace Go.Proofs.YtmogoephpefenaaDoor
open Go.RowKit

/-- The cells of a finder. -/
def finC (dv bv : Value) (last : List Nat) : Array Value := (dv :: (last.map (fun k : Nat => Value.int .i64 (k : Int)) ++ [bv])).toArray
/-- So many noughts. -/
def z4096 : List Nat := List.replicate 4096 0
theorem z4096_len : z4096.length = 4096 := List.length_replicate
set_option maxRecDepth 100000 in
theorem fin_build (a b : Option Addr) (n c m d : Nat) (w : World) : (Instr.build 82 #[(0, .slice a n c), (2, .slice b m d)]).run Tryd.prog w = .ok (.agg (finC (.slice a n c) (.slice b m d) z4096)) w := by kernel_rfl

/-- A finder in memory, and its row of distances. -/
def FinAt (w : World) (F : Nat) (dv bv : Value) (last : List Nat) : Prop := last.length = 4096 ∧ w.heap[F]? = some (.cells (finC dv bv last) 82 (0, 0))
def BkAt (w : World) (K : Nat) (bs : List Nat) : Prop := w.heap[K]? = some (.cells (bs.map (fun k : Nat => Value.int .u16 (k : Int))).toArray 84 (0, 0))

theorem FinAt.c0 {w : World} {F : Nat} {dv bv : Value} {last : List Nat} (h : FinAt w F dv bv last) : w.cell? ⟨F, 0, none⟩ = some dv := by
  rw [block_cell h.2]; simp [finC]
theorem FinAt.ch {w : World} {F : Nat} {dv bv : Value} {last : List Nat} (h : FinAt w F dv bv last) (k : Nat) (hk : k < 4096) : w.cell? ⟨F, 1 + k, none⟩ = some (.int .i64 ((last.getD k 0 : Nat) : Int)) := by
  rw [block_cell h.2]
  have : k < last.length := by rw [h.1]; exact hk
  simp [finC, Nat.add_comm 1 k, List.getElem?_append_left, this, List.getD_eq_getElem?_getD]
theorem FinAt.cb {w : World} {F : Nat} {dv bv : Value} {last : List Nat} (h : FinAt w F dv bv last) : w.cell? ⟨F, 4097, none⟩ = some bv := by
  rw [block_cell h.2]
  have h1 := h.1
  simp [finC, h1]
theorem FinAt.fz {w : World} {F : Nat} {dv bv : Value} {last : List Nat} (h : FinAt w F dv bv last) (k : Nat) : w.frozen? ⟨F, k, none⟩ = false := frozen_of_row w F k _ _ h.2
theorem BkAt.cell {w : World} {K : Nat} {bs : List Nat} (h : BkAt w K bs) (k : Nat) (hk : k < bs.length) : w.cell? ⟨K, k, none⟩ = some (.int .u16 ((bs.getD k 0 : Nat) : Int)) := by
  rw [block_cell h]; simp [hk, List.getD_eq_getElem?_getD]
theorem BkAt.fz {w : World} {K : Nat} {bs : List Nat} (h : BkAt w K bs) (k : Nat) : w.frozen? ⟨K, k, none⟩ = false := frozen_of_row w K k _ _ h

theorem Tryd.infoH : (Tryd.prog.info? 84).map (fun i => (i.zero, i.size, i.bytes)) = some (some (.int .u16 0), 1, 2) := by kernel_rfl

theorem made_block16 {w : World} {base g m : Nat} (h : w.ownsRow base 84 1 (.slice (some ⟨g, 0, none⟩) m m) m (madeCells #[Value.int .u16 0] m).toList) :
    BkAt w g (List.replicate m (0 : Nat)) := by
  unfold BkAt
  rcases h.2 with ⟨h', _⟩ | ⟨g', cap', cur, h', _, hg, _, _, hcs, htake⟩
  · simp at h'
  · simp only [Value.slice.injEq, Option.some.injEq, Addr.mk.injEq, and_true, true_and] at h'
    obtain ⟨rfl, rfl⟩ := h'
    rw [hg]
    have : cur = ((List.replicate m (0 : Nat)).map (fun k : Nat => Value.int .u16 (k : Int))).toArray := by
      apply Array.toList_inj.1
      rw [toList_madeCells_one, List.take_of_length_le (by simp; omega)] at htake
      rw [htake]; simp
    rw [this]

theorem wpList_build_fin {w : World} {ops : Array Oper} {rest : List Oper} {o : Oper} {a : Act} {Q : Exit → Act → World → Prop} (hg : o.guard = none) (x y : Operand)
    (hop : o.op = Op.build 82 #[(0, x), (2, y)]) (a1 a2 : Option Addr) (n c m d : Nat) (hx : a.eval x = .slice a1 n c) (hy : a.eval y = .slice a2 m d)
    (hK : wpList Tryd.prog ops Q rest (a.put o.dst (.agg (finC (.slice a1 n c) (.slice a2 m d) z4096))) w) : wpList Tryd.prog ops Q (o :: rest) a w := by
  refine wpList_plain hg fun K hK' => ?_
  unfold Oper.wp
  simp [execOp, hop, hx, hy, fin_build, Result.andThen]
  exact hK' _ _ hK

set_option maxHeartbeats 400000 in
theorem new_any (ao : Option Addr) (n c m : Nat) (w : World) (hn : n ≤ 4194304) (hm : (n ≤ 65536 ∧ m = n) ∨ (65536 < n ∧ m = 65536)) :
    Calls Tryd.prog 25 #[.slice ao n c] w fun e w' => ∃ F K, e = .returned (.pointer (some ⟨F, 0, none⟩)) ∧ w.heap.size ≤ F ∧ w.heap.size ≤ K ∧
      FinAt w' F (.slice ao n c) (.slice (some ⟨K, 0, none⟩) m m) z4096 ∧ BkAt w' K (List.replicate m 0) ∧ Below w.heap.size w w' := by
  obtain ⟨i0, hi, hz0, hz1, hz2⟩ := info_parts Tryd.infoH
  rcases hm with ⟨hm1, rfl⟩ | ⟨hm1, hm2⟩
  · go_enter Tryd.func25, Tryd.ntmps25
    go_wp2_with (at_make; refine wpList_make_full _ rfl _ _ 79 rfl w.heap.size 84 i0 (.int .u16 0) 1 Tryd.underlying79 hi hz0 hz1 .i64 .i64 _ _ m rfl rfl (by omega) (by omega) ?_ ?_ (Nat.le_refl _) ?_)
    · rw [hz2]; omega
    · unfold maxLen; omega
    intro w1 hown1 hgr1
    have blk1 := made_block16 hown1
    have hb1 : Below w.heap.size w w1 := (Below.refl _ _).grown hgr1 (Nat.le_refl _) (fun k hk => by cases hk)
    clear hown1 hgr1
    go_wp2_with (refine wpList_build_fin rfl _ _ rfl ao (some ⟨w.heap.size, 0, none⟩) m c m m rfl rfl ?_)
    go_ret
    exact ⟨w1.heap.size, w.heap.size, rfl, hb1.size, Nat.le_refl _, ⟨z4096_len, heap_alloc_new w1 _⟩, alloc_block blk1 _, hb1.alloc hb1.size _⟩
  · have HM := hide hm2
    clear hm2
    go_enter Tryd.func25, Tryd.ntmps25
    go_wp2_with (at_make; refine wpList_make_full _ rfl _ _ 79 rfl w.heap.size 84 i0 (.int .u16 0) 1 Tryd.underlying79 hi hz0 hz1 .i64 .i64 _ _ m rfl rfl (by have := HM.out; omega) (by have := HM.out; omega) ?_ ?_ (Nat.le_refl _) ?_)
    · rw [hz2]; have := HM.out; omega
    · unfold maxLen; have := HM.out; omega
    intro w1 hown1 hgr1
    have blk1 := made_block16 hown1
    have hb1 : Below w.heap.size w w1 := (Below.refl _ _).grown hgr1 (Nat.le_refl _) (fun k hk => by cases hk)
    clear hown1 hgr1
    go_wp2_with (refine wpList_build_fin rfl _ _ rfl ao (some ⟨w.heap.size, 0, none⟩) n c m m rfl rfl ?_)
    go_ret
    exact ⟨w1.heap.size, w.heap.size, rfl, hb1.size, Nat.le_refl _, ⟨z4096_len, heap_alloc_new w1 _⟩, alloc_block blk1 _, hb1.alloc hb1.size _⟩

theorem hashed_any (F : Nat) (ao : Option Addr) (n c p : Nat) (bv : Value) (last : List Nat) (w : World) (hf : FinAt w F (.slice ao n c) bv last) (_hn : n ≤ 4194304) (hp : p ≤ 8388608) :
    Calls Tryd.prog 35 #[.pointer (some ⟨F, 0, none⟩), .int .i64 p] w fun e w' => e = .returned (.bool (decide (p + 4 ≤ n))) ∧ w' = w := by
  have c0 := hf.c0
  have hd : decide ((p : Int) + 4 ≤ (n : Int)) = decide (p + 4 ≤ n) := by congr 1; rw [eq_iff_iff]; omega
  go_enter Tryd.func35, Tryd.ntmps35
  go_wp2
  go_ret
  exact ⟨by simp, rfl⟩

/-- The distance that reach tells. -/
def rch (p mark : Nat) : Nat := if mark = 0 ∨ p + 1 - mark > 65535 then 0 else p + 1 - mark

theorem reach_any (F : Nat) (p mark : Nat) (w : World) (hp : p ≤ 4194304) (hm : mark ≤ p + 1) :
    Calls Tryd.prog 36 #[.pointer (some ⟨F, 0, none⟩), .int .i64 p, .int .i64 mark] w fun e w' => e = .returned (.int .u16 (rch p mark)) ∧ w' = w := by
  by_cases h0 : mark = 0
  · have hd : ((mark : Int) == 0) = true := by simp [h0]
    have e : rch p mark = 0 := by simp [rch, h0]
    have HE := hide e
    clear e h0
    go_enter Tryd.func36, Tryd.ntmps36
    go_wp2
    go_ret
    exact ⟨by rw [HE.out]; rfl, rfl⟩
  · have hd : ((mark : Int) == 0) = false := by simp; omega
    by_cases h1 : p + 1 - mark > 65535
    · have e : rch p mark = 0 := by simp [rch, h1]
      have HE := hide e
      have h2 : (65535 : Int) < (p : Int) - ((mark : Int) - 1) := by omega
      clear e h0
      go_enter Tryd.func36, Tryd.ntmps36
      go_wp2
      go_ret
      exact ⟨by rw [HE.out]; rfl, rfl⟩
    · have e : rch p mark = p + 1 - mark := by simp [rch, h1, h0]
      have HE := hide e
      have h2 : ¬ (65535 : Int) < (p : Int) - ((mark : Int) - 1) := by omega
      clear e h0
      go_enter Tryd.func36, Tryd.ntmps36
      go_wp2
      go_ret
      refine ⟨?_, rfl⟩
      rw [HE.out]
      have e : (p : Int) - ((mark : Int) - 1) = ((p + 1 - mark : Nat) : Int) := by omega
      simp [e]

/-- The hash of four bytes. -/
def hshI (x0 x1 x2 x3 : Int) : Int :=
  bits BinOp.or IntKind.u32 (bits BinOp.or IntKind.u32 (bits BinOp.or IntKind.u32 (x0 * 16777216) (x1 * 65536)) (x2 * 256)) x3 * 2654435761 % 4294967296 / 1048576
def hsh (zs : List Int) (p : Nat) : Nat := (hshI (zs.getD p 0) (zs.getD (p + 1) 0) (zs.getD (p + 2) 0) (zs.getD (p + 3) 0)).toNat
theorem hshI_range (x0 x1 x2 x3 : Int) : 0 ≤ hshI x0 x1 x2 x3 ∧ hshI x0 x1 x2 x3 < 4096 := by
  unfold hshI
  generalize bits BinOp.or IntKind.u32 (bits BinOp.or IntKind.u32 (bits BinOp.or IntKind.u32 (x0 * 16777216) (x1 * 65536)) (x2 * 256)) x3 * 2654435761 = y
  omega
theorem hsh_lt (zs : List Int) (p : Nat) : hsh zs p < 4096 := by
  have := hshI_range (zs.getD p 0) (zs.getD (p + 1) 0) (zs.getD (p + 2) 0) (zs.getD (p + 3) 0)
  unfold hsh; omega
theorem hsh_int (zs : List Int) (p : Nat) : ((hsh zs p : Nat) : Int) = hshI (zs.getD p 0) (zs.getD (p + 1) 0) (zs.getD (p + 2) 0) (zs.getD (p + 3) 0) := by
  have := hshI_range (zs.getD p 0) (zs.getD (p + 1) 0) (zs.getD (p + 2) 0) (zs.getD (p + 3) 0)
  unfold hsh; omega

set_option maxHeartbeats 400000 in
theorem hash_core (F b off : Nat) (n c p : Nat) (bv : Value) (last : List Nat) (w : World) (x0 x1 x2 x3 : Int) (hf : FinAt w F (.slice (some ⟨b, off, none⟩) n c) bv last) (hn : n ≤ 4194304) (hc : n ≤ c) (hp : p + 4 ≤ n)
    (h0 : 0 ≤ x0 ∧ x0 ≤ 255) (h1 : 0 ≤ x1 ∧ x1 ≤ 255) (h2 : 0 ≤ x2 ∧ x2 ≤ 255) (h3 : 0 ≤ x3 ∧ x3 ≤ 255)
    (c0 : w.cell? ⟨b, off + p, none⟩ = some (.int .u8 x0)) (c1 : w.cell? ⟨b, off + p + 1, none⟩ = some (.int .u8 x1)) (c2 : w.cell? ⟨b, off + p + 2, none⟩ = some (.int .u8 x2)) (c3 : w.cell? ⟨b, off + p + 3, none⟩ = some (.int .u8 x3)) :
    Calls Tryd.prog 37 #[.pointer (some ⟨F, 0, none⟩), .int .i64 p] w fun e w' => e = .returned (.int .u32 (hshI x0 x1 x2 x3)) ∧ ∃ m, w' = w.drewN m := by
  have cf := hf.c0
  obtain ⟨h00, h01⟩ := h0
  obtain ⟨h10, h11⟩ := h1
  obtain ⟨h20, h21⟩ := h2
  obtain ⟨h30, h31⟩ := h3
  have hpc : ¬ c = p := by omega
  go_enter Tryd.func37, Tryd.ntmps37
  go_wp2
  go_quiet (fail)
  go_wp2
  go_ret
  exact ⟨rfl, _, rfl⟩

/-- The bytes that are packed, where they lie. -/
def DatAt (w : World) (b off : Nat) (zs : List Int) : Prop := ∀ i, i < zs.length → w.cell? ⟨b, off + i, none⟩ = some (.int .u8 (zs.getD i 0))

theorem hash_any (F b off c p : Nat) (zs : List Int) (bv : Value) (last : List Nat) (w : World) (hf : FinAt w F (.slice (some ⟨b, off, none⟩) zs.length c) bv last) (hd : DatAt w b off zs) (hby : Byt zs) (hn : zs.length ≤ 4194304) (hc : zs.length ≤ c) (hp : p + 4 ≤ zs.length) :
    Calls Tryd.prog 37 #[.pointer (some ⟨F, 0, none⟩), .int .i64 p] w fun e w' => e = .returned (.int .u32 ((hsh zs p : Nat) : Int)) ∧ ∃ m, w' = w.drewN m := by
  rw [hsh_int]
  exact hash_core F b off zs.length c p bv last w _ _ _ _ hf hn hc hp (hby.getD _) (hby.getD _) (hby.getD _) (hby.getD _) (hd p (by omega)) (hd (p + 1) (by omega)) (hd (p + 2) (by omega)) (hd (p + 3) (by omega))

/-- What alike tells of two places. -/
def Alk (zs : List Int) (a b count most r : Nat) : Prop :=
  (zs.getD (a + count) 0 ≠ zs.getD (b + count) 0 ∧ r = 0) ∨
  (zs.getD (a + count) 0 = zs.getD (b + count) 0 ∧ r ≤ most ∧ (∀ i, i < r → zs.getD (a + i) 0 = zs.getD (b + i) 0) ∧ (r < most → zs.getD (a + r) 0 ≠ zs.getD (b + r) 0))

set_option maxHeartbeats 800000 in
theorem alike_any (F b off c p q count most : Nat) (zs : List Int) (bv : Value) (last : List Nat) (w : World) (hf : FinAt w F (.slice (some ⟨b, off, none⟩) zs.length c) bv last) (hd : DatAt w b off zs) (hn : zs.length ≤ 4194304)
    (hp : p + most ≤ zs.length) (hq : q ≤ p) (hcm : count < most) :
    Calls Tryd.prog 38 #[.pointer (some ⟨F, 0, none⟩), .int .i64 p, .int .i64 q, .int .i64 count, .int .i64 most] w fun e w' => ∃ r, e = .returned (.int .i64 ((r : Nat) : Int)) ∧ Alk zs p q count most r ∧ ∃ m, w' = w.drewN m := by
  have cf := hf.c0
  have e1 : w.cell? ⟨b, off + (p + count), none⟩ = some (.int .u8 (zs.getD (p + count) 0)) := hd _ (by omega)
  have e2 : w.cell? ⟨b, off + (q + count), none⟩ = some (.int .u8 (zs.getD (q + count) 0)) := hd _ (by omega)
  have g1 : (p : Int) + (count : Int) < (zs.length : Int) := by omega
  have g2 : (q : Int) + (count : Int) < (zs.length : Int) := by omega
  obtain ⟨x, hx⟩ : ∃ x, x = zs.getD (p + count) 0 := ⟨_, rfl⟩
  obtain ⟨y, hy⟩ : ∃ y, y = zs.getD (q + count) 0 := ⟨_, rfl⟩
  rw [← hx] at e1
  rw [← hy] at e2
  have Hx := hide hx
  have Hy := hide hy
  have HD := hide hd
  clear hx hy hd
  by_cases hxy : x = y
  · have hne : (x != y) = false := by simp [hxy]
    have HXY := hide hxy
    clear hxy
    go_enter Tryd.func38, Tryd.ntmps38
    go_wp2
    go_quiet (fail)
    go_wp2
    clear e1 e2 g1 g2
    go_loopw [11] (fun i wr => ∃ k : Nat, k ≤ most ∧ i = .int .i64 k ∧ (∀ j, j < k → zs.getD (p + j) 0 = zs.getD (q + j) 0) ∧ ∃ m, wr = w.drewN m) (fun i _ => most - (intOf i).toNat)
    case atStart => exact ⟨0, Nat.zero_le _, rfl, fun j hj => absurd hj (by omega), _, rfl⟩
    case round =>
      obtain ⟨k, hk, rfl, hpre, m, rfl⟩ := hrel
      have HP := hide hpre
      clear hpre
      by_cases hlt : k < most
      · have hdl : decide ((k : Int) < (most : Int)) = true := by simp; omega
        have g1 : (p : Int) + (k : Int) < (zs.length : Int) := by omega
        have g2 : (q : Int) + (k : Int) < (zs.length : Int) := by omega
        have e1 : w.cell? ⟨b, off + (p + k), none⟩ = some (.int .u8 (zs.getD (p + k) 0)) := HD.out _ (by omega)
        have e2 : w.cell? ⟨b, off + (q + k), none⟩ = some (.int .u8 (zs.getD (q + k) 0)) := HD.out _ (by omega)
        obtain ⟨u, hu⟩ : ∃ u, u = zs.getD (p + k) 0 := ⟨_, rfl⟩
        obtain ⟨v, hv⟩ : ∃ v, v = zs.getD (q + k) 0 := ⟨_, rfl⟩
        rw [← hu] at e1
        rw [← hv] at e2
        have Hu := hide hu
        have Hv := hide hv
        clear hu hv
        by_cases huv : u = v
        · have huv' : (u == v) = true := by simp [huv]
          have HUV := hide huv
          clear huv
          go_wp2
          go_quiet (fail)
          go_wp2
          go_roundw
          case rel =>
            refine ⟨k + 1, by omega, by go_num, fun j hj => ?_, _, by first | rfl | rw [World.drewN_drewN]⟩
            rcases Nat.lt_or_ge j k with h | h
            · exact HP.out j h
            · obtain rfl : j = k := by omega
              rw [← Hu.out, ← Hv.out]; exact HUV.out
          case measure => simp [intOf]; omega
        · have huv' : (u == v) = false := by simp [huv]
          have HUV := hide huv
          clear huv
          go_wp2
          go_quiet (fail)
          go_wp2
          go_ret
          refine ⟨k, rfl, Or.inr ⟨by rw [← Hx.out, ← Hy.out]; exact HXY.out, hk, HP.out, fun _ => by rw [← Hu.out, ← Hv.out]; exact HUV.out⟩, _, by first | rfl | rw [World.drewN_drewN]⟩
      · have hdl : decide ((k : Int) < (most : Int)) = false := by simp; omega
        go_wp2
        go_quiet (fail)
        go_wp2
        go_ret
        refine ⟨k, rfl, Or.inr ⟨by rw [← Hx.out, ← Hy.out]; exact HXY.out, hk, HP.out, fun h => absurd h hlt⟩, _, by first | rfl | rw [World.drewN_drewN]⟩
  · have hne : (x != y) = true := by rw [bne_iff_ne]; exact hxy
    have HXY := hide hxy
    clear hxy
    go_enter Tryd.func38, Tryd.ntmps38
    go_wp2
    go_quiet (fail)
    go_wp2
    go_ret
    exact ⟨0, rfl, Or.inl ⟨by rw [← Hx.out, ← Hy.out]; exact HXY.out, rfl⟩, _, rfl⟩

/-- The address of an entry of the finder's array. -/
theorem ix_last (F k : Nat) (w : World) (hk : (k : Int) < 4096) : (Instr.indexAt 80 (.pointer (some ⟨F, 1, none⟩)) (.int .u32 (k : Int))).run Tryd.prog w = .ok (.pointer (some ⟨F, 1 + k, none⟩)) w := by
  go_simp
end Go.Proofs.YtmogoephpefenaaDoor
