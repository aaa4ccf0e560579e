/-
  The finder: its memory; newFinder, word, reach, forget, alike: walks.
-/
import Derived.Test.YtjafmnpobalepaaDoorWord
import Derived.BigQuiet
import Derived.Deep.QuietTactic
import Derived.Deep.RegionHeld3
import Derived.WalkLawsBesides
import Derived.WalkSpells
namespace Go.Proofs.YtjafmnpobalepaaDoor
open Go.RowKit Go.Maps

/-- A finder in memory, and its row of distances. -/
def FinAt (w : World) (F M : Nat) (dv bv : Value) : Prop := w.heap[F]? = some (.cells #[dv, .map (some M), bv] 82 (0, 0))
def BkAt (w : World) (K : Nat) (bs : List Nat) : Prop := w.heap[K]? = some (.cells (bs.map (fun k : Nat => Value.int .u16 (k : Int))).toArray 87 (0, 0))

theorem FinAt.c0 {w : World} {F M : Nat} {dv bv : Value} (h : FinAt w F M dv bv) : w.cell? ⟨F, 0, none⟩ = some dv := by
  rw [block_cell h]; rfl
theorem FinAt.c1 {w : World} {F M : Nat} {dv bv : Value} (h : FinAt w F M dv bv) : w.cell? ⟨F, 1, none⟩ = some (.map (some M)) := by
  rw [block_cell h]; rfl
theorem FinAt.c2 {w : World} {F M : Nat} {dv bv : Value} (h : FinAt w F M dv bv) : w.cell? ⟨F, 2, none⟩ = some bv := by
  rw [block_cell h]; rfl
theorem FinAt.lt {w : World} {F M : Nat} {dv bv : Value} (h : FinAt w F M dv bv) : F < w.heap.size := (Array.getElem?_eq_some_iff.1 h).1
theorem BkAt.lt {w : World} {K : Nat} {bs : List Nat} (h : BkAt w K bs) : K < w.heap.size := (Array.getElem?_eq_some_iff.1 h).1
theorem BkAt.cell {w : World} {K : Nat} {bs : List Nat} (h : BkAt w K bs) (k : Nat) (hk : k < bs.length) : w.cell? ⟨K, k, none⟩ = some (.int .u16 ((bs.getD k 0 : Nat) : Int)) := by
  rw [block_cell h]; simp [hk, List.getD_eq_getElem?_getD]
theorem BkAt.fz {w : World} {K : Nat} {bs : List Nat} (h : BkAt w K bs) (k : Nat) : w.frozen? ⟨K, k, none⟩ = false := frozen_of_row w K k _ _ h

/-- The bytes that are packed, where they lie. -/
def DatAt (w : World) (b off : Nat) (zs : List Int) : Prop := ∀ i, i < zs.length → w.cell? ⟨b, off + i, none⟩ = some (.int .u8 (zs.getD i 0))

set_option maxHeartbeats 800000 in
theorem word_core (F M b off : Nat) (n c p : Nat) (bv : Value) (w : World) (x0 x1 x2 x3 : Int) (hf : FinAt w F M (.slice (some ⟨b, off, none⟩) n c) bv) (hn : n ≤ 4194304) (hc : n ≤ c) (hp : p + 4 ≤ n)
    (c0 : w.cell? ⟨b, off + p, none⟩ = some (.int .u8 x0)) (c1 : w.cell? ⟨b, off + p + 1, none⟩ = some (.int .u8 x1)) (c2 : w.cell? ⟨b, off + p + 2, none⟩ = some (.int .u8 x2)) (c3 : w.cell? ⟨b, off + p + 3, none⟩ = some (.int .u8 x3)) :
    Calls Tryd.prog 35 #[.pointer (some ⟨F, 0, none⟩), .int .i64 p] w fun e w' => e = .returned (.tuple #[.agg #[.int .u8 x0, .int .u8 x1, .int .u8 x2, .int .u8 x3], .bool true]) ∧ Below w.heap.size w w' := by
  have cf := hf.c0
  have hpc : ¬ c = p := by omega
  have hgt : ¬ (n : Int) < (p : Int) + 4 := by omega
  have hlt : ¬ n - p < 4 := by omega
  have hF := hf.lt
  have hb : b < w.heap.size := World.block_lt_of_cell? w _ c0
  have hat : ∀ w, (Instr.arrayAt 84 (.slice (some ⟨b, off + p, none⟩) (n - p) (c - p))).run Tryd.prog w = .ok (.pointer (some ⟨b, off + p, none⟩)) w := fun w => run_arrayAt w 84 _ 4 _ (n - p) (c - p) Tryd.underlying84 (by omega)
  go_enter Tryd.func35, Tryd.ntmps35
  go_wp2
  refine bodyPost_ret (v := .tuple #[.agg #[.int .u8 x0, .int .u8 x1, .int .u8 x2, .int .u8 x3], .bool true]) ?_ rfl ⟨rfl, (Below.refl _ _).alloc (Nat.le_refl _) _⟩
  have hres : Tryd.f35.results = #[.cell 4 84, .tmp 5] := by kernel_rfl
  simp only [results, hres]
  go_simp

theorem word_yes (F M b off c p : Nat) (zs : List Int) (bv : Value) (w : World) (hf : FinAt w F M (.slice (some ⟨b, off, none⟩) zs.length c) bv) (hd : DatAt w b off zs) (hn : zs.length ≤ 4194304) (hc : zs.length ≤ c) (hp : p + 4 ≤ zs.length) :
    Calls Tryd.prog 35 #[.pointer (some ⟨F, 0, none⟩), .int .i64 p] w fun e w' => e = .returned (.tuple #[wval zs p, .bool true]) ∧ Below w.heap.size w w' :=
  word_core F M b off zs.length c p bv w _ _ _ _ hf hn hc hp (hd p (by omega)) (hd (p + 1) (by omega)) (hd (p + 2) (by omega)) (hd (p + 3) (by omega))

theorem word_no (F M : Nat) (ao : Option Addr) (n c p : Nat) (bv : Value) (w : World) (hf : FinAt w F M (.slice ao n c) bv) (hn : n ≤ 4194304) (hp : p ≤ n) (h : n < p + 4) :
    Calls Tryd.prog 35 #[.pointer (some ⟨F, 0, none⟩), .int .i64 p] w fun e w' => e = .returned (.tuple #[.agg #[.int .u8 0, .int .u8 0, .int .u8 0, .int .u8 0], .bool false]) ∧ Below w.heap.size w w' := by
  have cf := hf.c0
  have hF := hf.lt
  have hgt : (n : Int) < (p : Int) + 4 := by omega
  go_enter Tryd.func35, Tryd.ntmps35
  go_wp2
  refine bodyPost_ret (v := .tuple #[.agg #[.int .u8 0, .int .u8 0, .int .u8 0, .int .u8 0], .bool false]) ?_ rfl ⟨rfl, (Below.refl _ _).alloc (Nat.le_refl _) _⟩
  have hres : Tryd.f35.results = #[.cell 4 84, .tmp 5] := by kernel_rfl
  simp only [results, hres]
  go_simp

/-- The finder's map: at most so many entries, and what they are. -/
abbrev MpOwn (w : World) (M n : Nat) (D : DataW Unit) : Prop := w.ownsMap Tryd.prog 84 (plainElem Tryd.prog 3) M n D

theorem zeroInt (w : World) : (zeroValue 3).run Tryd.prog w = .ok (.int .i64 0) w := by kernel_rfl
theorem MpOwn.yes {w : World} {M n x : Nat} {D : DataW Unit} (h : MpOwn w M n D) {key : Value} {kl : Lit} (hk : keyOf Tryd.prog 84 key = some kl) (h1 : Maps.has D kl = true) (h2 : ∀ z, D.atKey kl z = .lit (.int .i64 ((x : Nat) : Int))) :
    (Instr.lookup 79 (.map (some M)) key true).run Tryd.prog w = .ok (.tuple #[.int .i64 x, .bool true]) w := by
  obtain ⟨v, ps, hrun, hv⟩ := World.ownsMap.look_ok h word_law Tryd.underlying79 (zeroInt w) (plainElem_int Tryd.underlying3 (by decide)) hk
  obtain ⟨c, rfl, hc, _⟩ := plainElem_int_inv Tryd.underlying3 hv
  rw [h2] at hc
  simp only [Prod.mk.injEq, DataW.lit.injEq, Lit.int.injEq, true_and] at hc
  rw [hrun, h1, hc.1]
theorem MpOwn.no {w : World} {M n : Nat} {D : DataW Unit} (h : MpOwn w M n D) {key : Value} {kl : Lit} (hk : keyOf Tryd.prog 84 key = some kl) (h1 : Maps.has D kl = false) :
    (Instr.lookup 79 (.map (some M)) key true).run Tryd.prog w = .ok (.tuple #[.int .i64 0, .bool false]) w := by
  obtain ⟨v, ps, hrun, hv⟩ := World.ownsMap.look_ok h word_law Tryd.underlying79 (zeroInt w) (plainElem_int Tryd.underlying3 (by decide)) hk
  obtain ⟨c, rfl, hc, _⟩ := plainElem_int_inv Tryd.underlying3 hv
  rw [atKey_of_not_has h1] at hc
  simp only [Prod.mk.injEq, DataW.lit.injEq, Lit.int.injEq, true_and] at hc
  rw [hrun, h1, ← hc.1]
theorem MpOwn.plain {w : World} {M n : Nat} {D : DataW Unit} (h : MpOwn w M n D) {key : Value} {kl : Lit} (hk : keyOf Tryd.prog 84 key = some kl) {x : Int} (h2 : D.atKey kl (.lit (.int .i64 0)) = .lit (.int .i64 x)) :
    (Instr.lookup 79 (.map (some M)) key false).run Tryd.prog w = .ok (.int .i64 x) w := by
  obtain ⟨c, hrun, hc, _⟩ := World.ownsMap.lookup_int h word_law Tryd.underlying79 Tryd.underlying3 (zeroInt w) hk
  rw [h2] at hc
  simp only [DataW.lit.injEq, Lit.int.injEq, true_and] at hc
  rw [hrun, ← hc]
theorem MpOwn.drewN {w : World} {M n : Nat} {D : DataW Unit} (h : MpOwn w M n D) (k : Nat) : MpOwn (w.drewN k) M n D := h
theorem MpOwn.below {w w' : World} {M n B : Nat} {D : DataW Unit} (h : MpOwn w M n D) (hb : Below B w w') (hM : M < B) : MpOwn w' M n D := by
  obtain ⟨es, clock, hs, r⟩ := h
  exact ⟨es, clock, (hb.block M hM).trans hs, r⟩

theorem Fin.drewB {w w' : World} {B : Nat} (h : Below B w w') (k : Nat) : Below B w (w'.drewN k) := ⟨h.os, h.tape, h.output, h.size, h.block⟩

theorem reach_core (F M n p mark : Nat) (dv bv : Value) (x0 x1 x2 x3 : Int) (kl : Lit) (D : DataW Unit) (w : World) (hf : FinAt w F M dv bv) (hm : MpOwn w M n D)
    (hk : keyOf Tryd.prog 84 (.agg #[.int .u8 x0, .int .u8 x1, .int .u8 x2, .int .u8 x3]) = some kl) (hml : mark ≤ p) (hmn : mark ≠ 0 → p + 1 ≤ mark + 65535)
    (h0 : mark = 0 → Maps.has D kl = false) (h1 : ∀ x, mark = x + 1 → Maps.has D kl = true ∧ ∀ z, D.atKey kl z = .lit (.int .i64 ((x : Nat) : Int))) :
    Calls Tryd.prog 36 #[.pointer (some ⟨F, 0, none⟩), .int .i64 p, .agg #[.int .u8 x0, .int .u8 x1, .int .u8 x2, .int .u8 x3]] w fun e w' => e = .returned (.int .u16 (rch p mark)) ∧ Below w.heap.size w w' := by
  have cf := hf.c1
  have hF := hf.lt
  by_cases hz : mark = 0
  · have look : ∀ k, (Instr.lookup 79 (.map (some M)) (.agg #[.int .u8 x0, .int .u8 x1, .int .u8 x2, .int .u8 x3]) true).run Tryd.prog ((w.alloc (.cells #[.int .u8 x0, .int .u8 x1, .int .u8 x2, .int .u8 x3] 84)).drewN k) = .ok (.tuple #[.int .i64 0, .bool false]) ((w.alloc (.cells #[.int .u8 x0, .int .u8 x1, .int .u8 x2, .int .u8 x3] 84)).drewN k) :=
      fun k => MpOwn.no (MpOwn.drewN (World.ownsMap.alloc hm _) k) hk (h0 hz)
    have e : rch p mark = 0 := by simp [rch, hz]
    have HE := hide e
    clear e hz h0 h1 hk hm
    go_enter Tryd.func36, Tryd.ntmps36
    go_wp2
    go_quiet (fail)
    go_wp2
    go_ret
    exact ⟨by rw [HE.out]; rfl, Fin.drewB ((Below.refl _ _).alloc (Nat.le_refl _) _) _⟩
  · obtain ⟨x, hx⟩ : ∃ x, mark = x + 1 := Nat.exists_eq_add_one_of_ne_zero hz
    obtain ⟨g1, g2⟩ := h1 x hx
    have look : ∀ k, (Instr.lookup 79 (.map (some M)) (.agg #[.int .u8 x0, .int .u8 x1, .int .u8 x2, .int .u8 x3]) true).run Tryd.prog ((w.alloc (.cells #[.int .u8 x0, .int .u8 x1, .int .u8 x2, .int .u8 x3] 84)).drewN k) = .ok (.tuple #[.int .i64 x, .bool true]) ((w.alloc (.cells #[.int .u8 x0, .int .u8 x1, .int .u8 x2, .int .u8 x3] 84)).drewN k) :=
      fun k => MpOwn.yes (MpOwn.drewN (World.ownsMap.alloc hm _) k) hk g1 g2
    have e : rch p mark = p - x := by unfold rch; rw [if_neg hz]; omega
    have HE := hide e
    have hxp : x < p := by omega
    have hxn : p ≤ x + 65535 := by have := hmn hz; omega
    have e2 : (p : Int) - (x : Int) = ((p - x : Nat) : Int) := by omega
    have hr : p - x ≤ 65535 := by omega
    have HE2 := hide e2
    clear e e2 hz h0 h1 hk hm g1 g2 hx hmn hml
    go_enter Tryd.func36, Tryd.ntmps36
    go_wp2
    go_quiet (fail)
    go_wp2
    go_ret
    refine ⟨?_, Fin.drewB ((Below.refl _ _).alloc (Nat.le_refl _) _) _⟩
    rw [HE.out]
    have e3 := HE2.out
    simp [e3]

theorem reach_any (F M n p : Nat) (dv bv : Value) (zs : List Int) (D : DataW Unit) (w : World) (hf : FinAt w F M dv bv) (hm : MpOwn w M n D) (hD : MapIs zs p D) (hby : Byt zs) (hp : p + 4 ≤ zs.length) :
    Calls Tryd.prog 36 #[.pointer (some ⟨F, 0, none⟩), .int .i64 p, wval zs p] w fun e w' => e = .returned (.int .u16 (rch p (mrk zs p p))) ∧ Below w.heap.size w w' :=
  reach_core F M n p (mrk zs p p) dv bv _ _ _ _ (wlit zs p) D w hf hm (wval_key hby p) (mrk_le zs p p) (mrk_near zs p p) (hD.2 p hp).1 (hD.2 p hp).2

theorem forget_neg (F : Nat) (z : Int) (w : World) (hz : z < 0) :
    Calls Tryd.prog 38 #[.pointer (some ⟨F, 0, none⟩), .int .i64 z] w fun e w' => e = .returned (.tuple #[]) ∧ w' = w := by
  go_enter Tryd.func38, Tryd.ntmps38
  go_wp2
  refine bodyPost_ret (v := .tuple #[]) ?_ rfl ⟨rfl, rfl⟩
  have hres : Tryd.f38.results = #[] := by kernel_rfl
  simp only [results, hres]
  go_simp

theorem grown_below {w w1 w2 : World} {row : Option Nat} (hb : Below w.heap.size w w1) (h : w1.grownBy w2 row) : w.grownBy w2 row :=
  ⟨h.os.trans hb.os, h.tape.trans hb.tape, h.output.trans hb.output, Nat.le_trans hb.size h.size, fun i hi hne => (h.block i (Nat.lt_of_lt_of_le hi hb.size) hne).trans (hb.block i hi)⟩
theorem below_grown {w w1 : World} (hb : Below w.heap.size w w1) (row : Option Nat) : w.grownBy w1 row :=
  ⟨hb.os, hb.tape, hb.output, hb.size, fun i hi _ => hb.block i hi⟩

set_option maxRecDepth 20000 in
set_option maxHeartbeats 2000000 in
theorem forget_core (F M n f : Nat) (dv bv : Value) (x0 x1 x2 x3 y : Int) (kl : Lit) (D : DataW Unit) (w : World) (hf : FinAt w F M dv bv) (hm : MpOwn w M n D) (hM : M < w.heap.size)
    (hw : Calls Tryd.prog 35 #[.pointer (some ⟨F, 0, none⟩), .int .i64 f] w fun e w' => e = .returned (.tuple #[.agg #[.int .u8 x0, .int .u8 x1, .int .u8 x2, .int .u8 x3], .bool true]) ∧ Below w.heap.size w w')
    (hk : keyOf Tryd.prog 84 (.agg #[.int .u8 x0, .int .u8 x1, .int .u8 x2, .int .u8 x3]) = some kl) (hy : D.atKey kl (.lit (.int .i64 0)) = .lit (.int .i64 y)) :
    Calls Tryd.prog 38 #[.pointer (some ⟨F, 0, none⟩), .int .i64 f] w fun e w' => e = .returned (.tuple #[]) ∧ w.grownBy w' (some M) ∧ MpOwn w' M n (if y = (f : Int) then D.del kl else D) := by
  have HW := hide hw
  clear hw
  have hF := hf.lt
  go_enter Tryd.func38, Tryd.ntmps38
  go_wp2_with fail
  refine HW.out.mono ?_
  rintro e w1 ⟨rfl, hb1⟩
  have hf1 : FinAt w1 F M dv bv := (hb1.block F hF).trans hf
  have hm1 : MpOwn w1 M n D := hm.below hb1 hM
  have cf := hf1.c1
  have hF1 := hf1.lt
  have hM1 := hm1.lt
  have look : ∀ k, (Instr.lookup 79 (.map (some M)) (.agg #[.int .u8 x0, .int .u8 x1, .int .u8 x2, .int .u8 x3]) false).run Tryd.prog ((w1.alloc (.cells #[.int .u8 x0, .int .u8 x1, .int .u8 x2, .int .u8 x3] 84)).drewN k) = .ok (.int .i64 y) ((w1.alloc (.cells #[.int .u8 x0, .int .u8 x1, .int .u8 x2, .int .u8 x3] 84)).drewN k) :=
    fun k => MpOwn.plain (MpOwn.drewN (World.ownsMap.alloc hm1 _) k) hk hy
  have HB1 := hide hb1
  have HM1 := hide hm1
  have HK := hide hk
  clear hb1 hm1 hf1 hf hm hk hy
  by_cases hyf : y = (f : Int)
  · subst hyf
    go_wp2
    go_quiet (fail)
    go_wp2
    obtain ⟨w2, hrun, hown2, hturn2⟩ := World.ownsMap.drop (MpOwn.drewN (World.ownsMap.alloc HM1.out (.cells #[.int .u8 x0, .int .u8 x1, .int .u8 x2, .int .u8 x3] 84)) (nq + 1)) word_law Tryd.underlying79 HK.out 0
    have HO2 := hide hown2
    have HT2 := hide hturn2
    clear hown2 hturn2
    go_region
    go_end0
    rw [if_pos rfl]
    exact ⟨rfl, grown_below (Fin.drewB (HB1.out.alloc HB1.out.size _) _) HT2.out.grown, HO2.out⟩
  · have hyf2 : (y == (f : Int)) = false := by simp [hyf]
    go_wp2
    go_quiet (fail)
    go_wp2
    go_end0
    exact ⟨rfl, below_grown (Fin.drewB (HB1.out.alloc HB1.out.size _) _) _, MpOwn.drewN (World.ownsMap.alloc HM1.out _) _⟩

/-- The place that can't be reached any more is forgotten, if it is the last one of its word. -/
theorem forget_any (F M b off c n f k : Nat) (zs : List Int) (bv : Value) (D : DataW Unit) (w : World) (hf : FinAt w F M (.slice (some ⟨b, off, none⟩) zs.length c) bv) (hd : DatAt w b off zs) (hby : Byt zs) (hm : MpOwn w M n D) (hD : MapIsP zs k D)
    (hn : zs.length ≤ 4194304) (hc : zs.length ≤ c) (hp : f + 4 ≤ zs.length) (hfk : f + 65536 = k + 1) :
    Calls Tryd.prog 38 #[.pointer (some ⟨F, 0, none⟩), .int .i64 f] w fun e w' => e = .returned (.tuple #[]) ∧ w.grownBy w' (some M) ∧ ∃ D', MpOwn w' M n D' ∧ MapIs zs (k + 1) D' := by
  have hw := word_yes F M b off c f zs bv w hf hd hn hc hp
  obtain ⟨g0, g1⟩ := hD.2 f hp
  rcases Nat.eq_zero_or_pos (mrkP zs k f (mrk zs k f)) with h0 | h0
  · refine (forget_core F M n f _ _ _ _ _ _ 0 (wlit zs f) D w hf hm hm.lt hw (wval_key hby f) (atKey_of_not_has (g0 h0) _)).mono ?_
    rintro e w' ⟨rfl, hg, ho⟩
    refine ⟨rfl, hg, D, ?_, hD.stay hfk (by rw [h0]; exact (Nat.succ_ne_zero f).symm)⟩
    split at ho
    · rwa [del_of_not_has (g0 h0)] at ho
    · exact ho
  · obtain ⟨x, hx⟩ : ∃ x, mrkP zs k f (mrk zs k f) = x + 1 := Nat.exists_eq_add_one_of_ne_zero (Nat.ne_of_gt h0)
    obtain ⟨a, z⟩ := g1 x hx
    refine (forget_core F M n f _ _ _ _ _ _ (x : Int) (wlit zs f) D w hf hm hm.lt hw (wval_key hby f) (z _)).mono ?_
    rintro e w' ⟨rfl, hg, ho⟩
    by_cases hxf : x = f
    · rw [if_pos (by rw [hxf])] at ho
      exact ⟨rfl, hg, _, ho, hD.drop hfk (by rw [hx, hxf])⟩
    · rw [if_neg (fun e => hxf (Int.ofNat_inj.1 e))] at ho
      exact ⟨rfl, hg, _, ho, hD.stay hfk (fun e => hxf (Nat.succ.inj (hx.symm.trans e)))⟩

/-- What alike tells of two places. -/
def Alk (zs : List Int) (a b count most r : Nat) : Prop :=
  (zs.getD (a + count) 0 ≠ zs.getD (b + count) 0 ∧ r = 0) ∨
  (zs.getD (a + count) 0 = zs.getD (b + count) 0 ∧ r ≤ most ∧ (∀ i, i < r → zs.getD (a + i) 0 = zs.getD (b + i) 0) ∧ (r < most → zs.getD (a + r) 0 ≠ zs.getD (b + r) 0))

set_option maxHeartbeats 800000 in
theorem alike_any (F M b off c p q count most : Nat) (zs : List Int) (bv : Value) (w : World) (hf : FinAt w F M (.slice (some ⟨b, off, none⟩) zs.length c) bv) (hd : DatAt w b off zs) (hn : zs.length ≤ 4194304)
    (hp : p + most ≤ zs.length) (hq : q ≤ p) (hcm : count < most) :
    Calls Tryd.prog 37 #[.pointer (some ⟨F, 0, none⟩), .int .i64 p, .int .i64 q, .int .i64 count, .int .i64 most] w fun e w' => ∃ r, e = .returned (.int .i64 ((r : Nat) : Int)) ∧ Alk zs p q count most r ∧ ∃ m, w' = w.drewN m := by
  have cf := hf.c0
  have e1 : w.cell? ⟨b, off + (p + count), none⟩ = some (.int .u8 (zs.getD (p + count) 0)) := hd _ (by omega)
  have e2 : w.cell? ⟨b, off + (q + count), none⟩ = some (.int .u8 (zs.getD (q + count) 0)) := hd _ (by omega)
  have g1 : (p : Int) + (count : Int) < (zs.length : Int) := by omega
  have g2 : (q : Int) + (count : Int) < (zs.length : Int) := by omega
  obtain ⟨x, hx⟩ : ∃ x, x = zs.getD (p + count) 0 := ⟨_, rfl⟩
  obtain ⟨y, hy⟩ : ∃ y, y = zs.getD (q + count) 0 := ⟨_, rfl⟩
  rw [← hx] at e1
  rw [← hy] at e2
  have Hx := hide hx
  have Hy := hide hy
  have HD := hide hd
  clear hx hy hd
  by_cases hxy : x = y
  · have hne : (x != y) = false := by simp [hxy]
    have HXY := hide hxy
    clear hxy
    go_enter Tryd.func37, Tryd.ntmps37
    go_wp2
    go_quiet (fail)
    go_wp2
    clear e1 e2 g1 g2
    go_loopw [11] (fun i wr => ∃ k : Nat, k ≤ most ∧ i = .int .i64 k ∧ (∀ j, j < k → zs.getD (p + j) 0 = zs.getD (q + j) 0) ∧ ∃ m, wr = w.drewN m) (fun i _ => most - (intOf i).toNat)
    case atStart => exact ⟨0, Nat.zero_le _, rfl, fun j hj => absurd hj (by omega), _, rfl⟩
    case round =>
      obtain ⟨k, hk, rfl, hpre, m, rfl⟩ := hrel
      have HP := hide hpre
      clear hpre
      by_cases hlt : k < most
      · have hdl : decide ((k : Int) < (most : Int)) = true := by simp; omega
        have g1 : (p : Int) + (k : Int) < (zs.length : Int) := by omega
        have g2 : (q : Int) + (k : Int) < (zs.length : Int) := by omega
        have e1 : w.cell? ⟨b, off + (p + k), none⟩ = some (.int .u8 (zs.getD (p + k) 0)) := HD.out _ (by omega)
        have e2 : w.cell? ⟨b, off + (q + k), none⟩ = some (.int .u8 (zs.getD (q + k) 0)) := HD.out _ (by omega)
        obtain ⟨u, hu⟩ : ∃ u, u = zs.getD (p + k) 0 := ⟨_, rfl⟩
        obtain ⟨v, hv⟩ : ∃ v, v = zs.getD (q + k) 0 := ⟨_, rfl⟩
        rw [← hu] at e1
        rw [← hv] at e2
        have Hu := hide hu
        have Hv := hide hv
        clear hu hv
        by_cases huv : u = v
        · have huv' : (u == v) = true := by simp [huv]
          have HUV := hide huv
          clear huv
          go_wp2
          go_quiet (fail)
          go_wp2
          go_roundw
          case rel =>
            refine ⟨k + 1, by omega, by go_num, fun j hj => ?_, _, by first | rfl | rw [World.drewN_drewN]⟩
            rcases Nat.lt_or_ge j k with h | h
            · exact HP.out j h
            · obtain rfl : j = k := by omega
              rw [← Hu.out, ← Hv.out]; exact HUV.out
          case measure => simp [intOf]; omega
        · have huv' : (u == v) = false := by simp [huv]
          have HUV := hide huv
          clear huv
          go_wp2
          go_quiet (fail)
          go_wp2
          go_ret
          refine ⟨k, rfl, Or.inr ⟨by rw [← Hx.out, ← Hy.out]; exact HXY.out, hk, HP.out, fun _ => by rw [← Hu.out, ← Hv.out]; exact HUV.out⟩, _, by first | rfl | rw [World.drewN_drewN]⟩
      · have hdl : decide ((k : Int) < (most : Int)) = false := by simp; omega
        go_wp2
        go_quiet (fail)
        go_wp2
        go_ret
        refine ⟨k, rfl, Or.inr ⟨by rw [← Hx.out, ← Hy.out]; exact HXY.out, hk, HP.out, fun h => absurd h hlt⟩, _, by first | rfl | rw [World.drewN_drewN]⟩
  · have hne : (x != y) = true := by rw [bne_iff_ne]; exact hxy
    have HXY := hide hxy
    clear hxy
    go_enter Tryd.func37, Tryd.ntmps37
    go_wp2
    go_quiet (fail)
    go_wp2
    go_ret
    exact ⟨0, rfl, Or.inl ⟨by rw [← Hx.out, ← Hy.out]; exact HXY.out, rfl⟩, _, rfl⟩

theorem Tryd.infoH : (Tryd.prog.info? 87).map (fun i => (i.zero, i.size, i.bytes)) = some (some (.int .u16 0), 1, 2) := by kernel_rfl

theorem made_block16 {w : World} {base g m : Nat} (h : w.ownsRow base 87 1 (.slice (some ⟨g, 0, none⟩) m m) m (madeCells #[Value.int .u16 0] m).toList) :
    BkAt w g (List.replicate m (0 : Nat)) := by
  unfold BkAt
  rcases h.2 with ⟨h', _⟩ | ⟨g', cap', cur, h', _, hg, _, _, hcs, htake⟩
  · simp at h'
  · simp only [Value.slice.injEq, Option.some.injEq, Addr.mk.injEq, and_true, true_and] at h'
    obtain ⟨rfl, rfl⟩ := h'
    rw [hg]
    have : cur = ((List.replicate m (0 : Nat)).map (fun k : Nat => Value.int .u16 (k : Int))).toArray := by
      apply Array.toList_inj.1
      rw [toList_madeCells_one, List.take_of_length_le (by simp; omega)] at htake
      rw [htake]; simp
    rw [this]


set_option maxHeartbeats 400000 in
theorem new_any (ao : Option Addr) (n c m : Nat) (w : World) (hn : n ≤ 4194304) (hm : (n ≤ 65536 ∧ m = n) ∨ (65536 < n ∧ m = 65536)) :
    Calls Tryd.prog 25 #[.slice ao n c] w fun e w' => ∃ F M K, e = .returned (.pointer (some ⟨F, 0, none⟩)) ∧ w.heap.size ≤ F ∧ w.heap.size ≤ M ∧ w.heap.size ≤ K ∧
      FinAt w' F M (.slice ao n c) (.slice (some ⟨K, 0, none⟩) m m) ∧ MpOwn w' M 0 (.map []) ∧ BkAt w' K (List.replicate m 0) ∧ Below w.heap.size w w' := by
  obtain ⟨i0, hi, hz0, hz1, hz2⟩ := info_parts Tryd.infoH
  have hmm := @run_makeMap Tryd.prog
  have hb0 : Below w.heap.size w (w.alloc (.map #[] 0)) := (Below.refl _ _).alloc (Nat.le_refl _) _
  have hs0 : (w.alloc (.map #[] 0)).heap.size = w.heap.size + 1 := by simp
  have HO := hide (World.ownsMap_made (H := Unit) w Tryd.prog 84 (plainElem Tryd.prog 3))
  rcases hm with ⟨hm1, rfl⟩ | ⟨hm1, hm2⟩
  · go_enter Tryd.func25, Tryd.ntmps25
    go_wp2_with (at_make; refine wpList_make_full _ rfl _ _ 80 rfl (w.heap.size + 1) 87 i0 (.int .u16 0) 1 Tryd.underlying80 hi hz0 hz1 .i64 .i64 _ _ m rfl rfl (by omega) (by omega) ?_ ?_ (by simp) ?_)
    · rw [hz2]; omega
    · unfold maxLen; omega
    intro w1 hown1 hgr1
    have blk1 := made_block16 hown1
    have hb1 : Below w.heap.size w w1 := hb0.grown hgr1 hb0.size (fun k hk => by cases hk)
    have hm1 : MpOwn w1 w.heap.size 0 (.map []) := World.ownsMap.kept HO.out hgr1 (by simp)
    have HM1 := hide hm1
    clear hown1 hgr1 hm1 hb0 hs0
    go_wp2
    go_ret
    exact ⟨w1.heap.size, w.heap.size, w.heap.size + 1, rfl, hb1.size, Nat.le_refl _, Nat.le_succ _, heap_alloc_new w1 _, World.ownsMap.alloc HM1.out _, alloc_block blk1 _, hb1.alloc hb1.size _⟩
  · have HM := hide hm2
    clear hm2
    go_enter Tryd.func25, Tryd.ntmps25
    go_wp2_with (at_make; refine wpList_make_full _ rfl _ _ 80 rfl (w.heap.size + 1) 87 i0 (.int .u16 0) 1 Tryd.underlying80 hi hz0 hz1 .i64 .i64 _ _ m rfl rfl (by have := HM.out; omega) (by have := HM.out; omega) ?_ ?_ (by simp) ?_)
    · rw [hz2]; have := HM.out; omega
    · unfold maxLen; have := HM.out; omega
    intro w1 hown1 hgr1
    have blk1 := made_block16 hown1
    have hb1 : Below w.heap.size w w1 := hb0.grown hgr1 hb0.size (fun k hk => by cases hk)
    have hm1 : MpOwn w1 w.heap.size 0 (.map []) := World.ownsMap.kept HO.out hgr1 (by simp)
    have HM1 := hide hm1
    clear hown1 hgr1 hm1 hb0 hs0
    go_wp2
    go_ret
    exact ⟨w1.heap.size, w.heap.size, w.heap.size + 1, rfl, hb1.size, Nat.le_refl _, Nat.le_succ _, heap_alloc_new w1 _, World.ownsMap.alloc HM1.out _, alloc_block blk1 _, hb1.alloc hb1.size _⟩
end Go.Proofs.YtjafmnpobalepaaDoor
