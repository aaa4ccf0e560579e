/-
  (*finder).note: walk; the finder's state as a function of how many places were noted.
-/
import Derived.Test.YtmogoephpefenaaDoorLong
import Derived.Deep.RegionHeld3
namespace Go.Proofs.YtmogoephpefenaaDoor
open Go.RowKit

/-- A place is noted. -/
def note1 (zs : List Int) (s : List Nat × List Nat) (p : Nat) : List Nat × List Nat :=
  (s.1.set (hsh zs p) (p + 1), s.2.set (p % 65536) (rch p (s.1.getD (hsh zs p) 0)))
/-- The first k places are noted. -/
def stN (zs : List Int) (m : Nat) : Nat → List Nat × List Nat
  | 0 => (z4096, List.replicate m 0)
  | k + 1 => note1 zs (stN zs m k) k

theorem getD_set {l : List Nat} {i j x : Nat} : (l.set i x).getD j 0 = if i = j ∧ i < l.length then x else l.getD j 0 := by
  simp only [List.getD_eq_getElem?_getD, List.getElem?_set]
  by_cases h : i = j
  · subst h
    by_cases h2 : i < l.length
    · simp [h2]
    · simp [h2]
  · simp [h]

theorem st_len (zs : List Int) (m k : Nat) : (stN zs m k).1.length = 4096 ∧ (stN zs m k).2.length = m := by
  induction k with
  | zero => exact ⟨z4096_len, List.length_replicate⟩
  | succ k ih => simp [stN, note1, ih.1, ih.2]
theorem z4096_at (h : Nat) : z4096.getD h 0 = 0 := by
  unfold z4096
  generalize 4096 = n
  simp only [List.getD_eq_getElem?_getD, List.getElem?_replicate]
  split <;> rfl
theorem rep_at (m h : Nat) : (List.replicate m 0 : List Nat).getD h 0 = 0 := by
  simp only [List.getD_eq_getElem?_getD, List.getElem?_replicate]
  split <;> rfl
theorem st_last (zs : List Int) (m k h : Nat) : (stN zs m k).1.getD h 0 ≤ k := by
  induction k with
  | zero => simp only [stN, z4096_at]; exact Nat.le_refl _
  | succ k ih =>
    simp only [stN, note1, getD_set]
    split <;> omega
theorem rch_le (p mark : Nat) : rch p mark ≤ 65535 ∧ rch p mark ≤ p := by
  unfold rch
  split <;> omega
theorem st_u16 (zs : List Int) (m k i : Nat) : (stN zs m k).2.getD i 0 ≤ 65535 := by
  induction k with
  | zero => simp only [stN, rep_at]; omega
  | succ k ih =>
    simp only [stN, note1, getD_set]
    split
    · exact (rch_le _ _).1
    · exact ih
/-- The distance that is kept for a place, as long as it is within the window. -/
theorem st_back (zs : List Int) (m k q : Nat) (hq : q < k) (hw : k ≤ q + 65536) (hm : q % 65536 < m) : (stN zs m k).2.getD (q % 65536) 0 = rch q ((stN zs m q).1.getD (hsh zs q) 0) := by
  induction k with
  | zero => omega
  | succ k ih =>
    simp only [stN, note1, getD_set, (st_len zs m k).2]
    by_cases h : q = k
    · subst h; simp [hm]
    · have hne : ¬ k % 65536 = q % 65536 := by omega
      simp only [hne, false_and, if_false]
      exact ih (by omega) (by omega)
theorem st_chain (zs : List Int) (m k q : Nat) (hq : q < k) (hw : k ≤ q + 65536) (hm : q % 65536 < m) : (stN zs m k).2.getD (q % 65536) 0 ≤ q := by
  rw [st_back zs m k q hq hw hm]; exact (rch_le _ _).2

/-- Two blocks alone were written. -/
structure Only2 (F K : Nat) (w w' : World) : Prop where
  os : w'.os = w.os
  tape : w'.tape = w.tape
  output : w'.output = w.output
  size : w'.heap.size = w.heap.size
  block : ∀ j, j ≠ F → j ≠ K → w'.heap[j]? = w.heap[j]?

theorem Only2.refl (F K : Nat) (w : World) : Only2 F K w w := ⟨rfl, rfl, rfl, rfl, fun _ _ _ => rfl⟩
theorem Only2.trans {F K : Nat} {a b c : World} (h : Only2 F K a b) (g : Only2 F K b c) : Only2 F K a c :=
  ⟨g.os.trans h.os, g.tape.trans h.tape, g.output.trans h.output, g.size.trans h.size, fun j h1 h2 => (g.block j h1 h2).trans (h.block j h1 h2)⟩
theorem Only2.drewN {F K n : Nat} {a b : World} (h : Only2 F K a b) : Only2 F K a (b.drewN n) := ⟨h.os, h.tape, h.output, h.size, h.block⟩
theorem Only2.drew {F K : Nat} {a b : World} (h : Only2 F K a b) : Only2 F K a b.drew := ⟨h.os, h.tape, h.output, h.size, h.block⟩
theorem Only2.setF {F K o : Nat} {a b : World} (h : Only2 F K a b) (v : Value) : Only2 F K a (b.setCell ⟨F, o, none⟩ v) :=
  h.trans ⟨rfl, rfl, rfl, by simp, fun j h1 _ => Below.heap_setCell _ _ _ _ h1⟩
theorem Only2.setK {F K o : Nat} {a b : World} (h : Only2 F K a b) (v : Value) : Only2 F K a (b.setCell ⟨K, o, none⟩ v) :=
  h.trans ⟨rfl, rfl, rfl, by simp, fun j _ h2 => Below.heap_setCell _ _ _ _ h2⟩
theorem Only2.below {F K B : Nat} {a b : World} (h : Only2 F K a b) (hF : B ≤ F) (hK : B ≤ K) : Below B a b :=
  ⟨h.os, h.tape, h.output, by rw [h.size]; exact Nat.le_refl _, fun k hk => h.block k (by omega) (by omega)⟩

theorem FinAt.set {w : World} {F : Nat} {dv bv : Value} {last : List Nat} (h : FinAt w F dv bv last) (k x : Nat) (hk : k < 4096) : FinAt (w.setCell ⟨F, 1 + k, none⟩ (.int .i64 (x : Int))) F dv bv (last.set k x) := by
  refine ⟨by rw [List.length_set]; exact h.1, ?_⟩
  rw [heap_setCell_same w F (1 + k) _ _ _ h.2]
  have hl : k < last.length := by rw [h.1]; exact hk
  congr 2
  simp [finC, Nat.add_comm 1 k, hl, List.map_set]
theorem BkAt.set {w : World} {K : Nat} {bs : List Nat} (h : BkAt w K bs) (k x : Nat) : BkAt (w.setCell ⟨K, k, none⟩ (.int .u16 (x : Int))) K (bs.set k x) := by
  unfold BkAt
  rw [heap_setCell_same w K k _ _ _ h]
  simp [List.map_set]
theorem FinAt.other {w w' : World} {F : Nat} {dv bv : Value} {last : List Nat} (h : FinAt w F dv bv last) (hb : w'.heap[F]? = w.heap[F]?) : FinAt w' F dv bv last := ⟨h.1, hb.trans h.2⟩
theorem BkAt.other {w w' : World} {K : Nat} {bs : List Nat} (h : BkAt w K bs) (hb : w'.heap[K]? = w.heap[K]?) : BkAt w' K bs := hb.trans h
theorem FK_ne {w : World} {F K : Nat} {dv bv : Value} {last bs : List Nat} (h : FinAt w F dv bv last) (g : BkAt w K bs) : F ≠ K := by
  rintro rfl
  have h2 := h.2
  unfold BkAt at g
  rw [g] at h2
  simp at h2

theorem note_no (F : Nat) (ao : Option Addr) (n c p to : Nat) (bv : Value) (last : List Nat) (w : World) (hf : FinAt w F (.slice ao n c) bv last) (hn : n ≤ 4194304) (hp : p ≤ n) (h : n < p + 4) (_ht : to ≤ 8388608) :
    Calls Tryd.prog 27 #[.pointer (some ⟨F, 0, none⟩), .int .i64 p, .int .i64 to] w fun e w' => e = .returned (.tuple #[]) ∧ w' = w := by
  have hd : decide (p + 4 ≤ n) = false := by simp; omega
  have hh := hashed_any F ao n c p bv last w hf hn (by omega)
  rw [hd] at hh
  have HH := hide hh
  clear hh
  by_cases hpt : p < to
  · have hd2 : decide ((p : Int) < (to : Int)) = true := by simp; omega
    go_enter Tryd.func27, Tryd.ntmps27
    go_wp2
    refine wp_loop_rounds 1 ?_
    rw [rounds_succ]
    go_wp2_with (go_at_call 35; refine HH.out.mono ?_; rintro e w' ⟨rfl, hw⟩; rw [hw]; clear hw w')
    go_end0
    exact ⟨rfl, rfl⟩
  · have hd2 : decide ((p : Int) < (to : Int)) = false := by simp; omega
    go_enter Tryd.func27, Tryd.ntmps27
    go_wp2
    refine wp_loop_rounds 1 ?_
    rw [rounds_succ]
    go_wp2
    go_end0
    exact ⟨rfl, rfl⟩

set_option maxRecDepth 100000 in
set_option maxHeartbeats 4000000 in
theorem note_yes (F K b off c p to m : Nat) (zs : List Int) (w : World) (hf : FinAt w F (.slice (some ⟨b, off, none⟩) zs.length c) (.slice (some ⟨K, 0, none⟩) m m) (stN zs m p).1) (hk : BkAt w K (stN zs m p).2) (hd : DatAt w b off zs) (hby : Byt zs)
    (hn : zs.length ≤ 4194304) (hc : zs.length ≤ c) (hm : m = min zs.length 65536) (hp : p + 4 ≤ zs.length) (hpt : p ≤ to) (hto : to ≤ 8388608) (hbF : b ≠ F) (hbK : b ≠ K) :
    Calls Tryd.prog 27 #[.pointer (some ⟨F, 0, none⟩), .int .i64 p, .int .i64 to] w fun e w' => e = .returned (.tuple #[]) ∧ Only2 F K w w' ∧
      FinAt w' F (.slice (some ⟨b, off, none⟩) zs.length c) (.slice (some ⟨K, 0, none⟩) m m) (stN zs m (min to (zs.length - 3))).1 ∧ BkAt w' K (stN zs m (min to (zs.length - 3))).2 := by
  have hFK := FK_ne hf hk
  have HM := hide hm
  have hmle : m ≤ 65536 := by omega
  have HBY := hide hby
  clear hm hby
  go_enter Tryd.func27, Tryd.ntmps27
  go_wp2
  go_loopw [6] (fun v6 wr => ∃ k : Nat, v6 = .int .i64 k ∧ p ≤ k ∧ k ≤ to ∧ k + 3 ≤ zs.length ∧ Only2 F K w wr ∧ FinAt wr F (.slice (some ⟨b, off, none⟩) zs.length c) (.slice (some ⟨K, 0, none⟩) m m) (stN zs m k).1 ∧ BkAt wr K (stN zs m k).2) (fun v6 _ => to - (intOf v6).toNat)
  case atStart => exact ⟨p, rfl, Nat.le_refl _, hpt, by omega, Only2.refl _ _ _, hf, hk⟩
  case round =>
    clear hf hk
    obtain ⟨k, rfl, hpk, hkt, hkn, ho, hf, hk⟩ := hrel
    have hh := hashed_any F (some ⟨b, off, none⟩) zs.length c k (.slice (some ⟨K, 0, none⟩) m m) (stN zs m k).1 wr hf hn (by omega)
    by_cases hlt : k < to
    · have hd2 : decide ((k : Int) < (to : Int)) = true := by simp; omega
      by_cases hk4 : k + 4 ≤ zs.length
      · have hd3 : decide (k + 4 ≤ zs.length) = true := by simp; omega
        rw [hd3] at hh
        have HH := hide hh
        clear hh hd3
        have hdr : DatAt wr b off zs := fun i hi => by
          have := hd i hi
          rw [← this]
          exact World.cell?_of_block (a := ⟨b, off + i, none⟩) (ho.block b hbF hbK)
        have hash := hash_any F b off c k zs (.slice (some ⟨K, 0, none⟩) m m) (stN zs m k).1 wr hf hdr HBY.out hn hc hk4
        have HS := hide hash
        clear hash hdr
        have cb := hf.cb
        have ch := hf.ch (hsh zs k) (hsh_lt zs k)
        have hhl : ((hsh zs k : Nat) : Int) < 4096 := by have := hsh_lt zs k; omega
        have hmark := st_last zs m k (hsh zs k)
        have HS1 : Hid (stN zs m (k + 1) = ((stN zs m k).1.set (hsh zs k) (k + 1), (stN zs m k).2.set (k % 65536) (rch k ((stN zs m k).1.getD (hsh zs k) 0)))) := rfl
        have HHL := hide (hsh_lt zs k)
        have hkm : k % 65536 < m := by have := HM.out; omega
        have hbl := (st_len zs m k).2
        have fF := hf.fz (1 + hsh zs k)
        have fK := hk.fz (k % 65536)
        have cK := hk.cell (k % 65536) (by omega)
        obtain ⟨j, hj⟩ : ∃ j : Nat, k % 65536 = j := ⟨_, rfl⟩
        rw [hj] at cK fK hkm HS1
        have hj1 : (k : Int) % 65536 = (j : Int) := by omega
        have hj2 : (k : Int).tmod 65536 = (j : Int) := by rw [Int.tmod_eq_emod_of_nonneg (by omega)]; exact hj1
        have hj3 : (j : Int) < (m : Int) := by omega
        have hj4 : (0 : Int) ≤ (j : Int) := by omega
        have HJ := hide hj
        clear hj
        generalize hhv : hsh zs k = hv at *
        have HV := hide hhv
        have hix := fun w => ix_last F hv w hhl
        generalize hmk : (stN zs m k).1.getD hv 0 = mark at *
        have HMK := hide hmk
        generalize hold : (stN zs m k).2.getD j 0 = old at *
        have REACH : Hid (∀ w, Calls Tryd.prog 36 #[.pointer (some ⟨F, 0, none⟩), .int .i64 k, .int .i64 mark] w fun e w' => e = .returned (.int .u16 (rch k mark)) ∧ w' = w) := fun w =>
          reach_any F k mark w (by omega) (by omega)
        generalize hrc : rch k mark = rc at *
        have HF := hide hf
        have HK := hide hk
        have HO := hide ho
        have ne1 : (⟨K, j, none⟩ : Addr) ≠ ⟨F, 4097, none⟩ := fun e => hFK (by cases e; rfl)
        have ne2 : (⟨K, j, none⟩ : Addr) ≠ ⟨F, 1 + hv, none⟩ := fun e => hFK (by cases e; rfl)
        clear hhv hmk hold hrc hf hk ho hbl hhl
        go_wp2_with (first | (go_at_call 35; refine HH.out.mono ?_; rintro e w' ⟨rfl, hw⟩; rw [hw]; clear hw w') | (go_at_call 37; refine HS.out.mono ?_; rintro e w' ⟨rfl, m1, rfl⟩))
        go_region_held3 (fun w' => w'.cell? ⟨F, 4097, none⟩ = some (.slice (some ⟨K, 0, none⟩) m m) ∧ w'.cell? ⟨F, 1 + hv, none⟩ = some (.int .i64 (mark : Int))) (first | (simp [World.cell?_setCell_other _ _ _ _ ne1, World.cell?_setCell_other _ _ _ _ ne2, cb, ch]; done) | go_keep) (first | (go_at_call 36; refine (REACH.out _).mono ?_; rintro e w' ⟨rfl, hw⟩; rw [hw]; clear hw w'))
        go_wp2
        go_roundw
        case rel =>
          have e1 : FinAt ((wr.drewN (m1 + 1)).setCell ⟨K, j, none⟩ (.int .u16 (rc : Int))) F (.slice (some ⟨b, off, none⟩) zs.length c) (.slice (some ⟨K, 0, none⟩) m m) (stN zs m k).1 :=
            FinAt.other (w := wr) HF.out (Below.heap_setCell (wr.drewN (m1 + 1)) ⟨K, j, none⟩ _ F hFK)
          have e2 := e1.set hv (k + 1) HHL.out
          have e3 : BkAt ((wr.drewN (m1 + 1)).setCell ⟨K, j, none⟩ (.int .u16 (rc : Int))) K ((stN zs m k).2.set j rc) := BkAt.set (w := wr.drewN (m1 + 1)) HK.out j rc
          refine ⟨k + 1, by go_num, by omega, by omega, by omega, ((HO.out.drewN).setK _).setF _, ?_, ?_⟩
          · rw [HS1.out]; exact e2
          · rw [HS1.out]; exact e3.other (Below.heap_setCell _ ⟨F, 1 + hv, none⟩ _ K (fun e => hFK e.symm))
        case measure => simp [intOf]; omega
      · have hd3 : decide (k + 4 ≤ zs.length) = false := by simp; omega
        rw [hd3] at hh
        have HH := hide hh
        have he : min to (zs.length - 3) = k := by omega
        have HE := hide he
        clear hh hd3 he
        go_wp2_with (go_at_call 35; refine HH.out.mono ?_; rintro e w' ⟨rfl, hw⟩; rw [hw]; clear hw w')
        go_end0
        rw [HE.out]
        exact ⟨rfl, ho, hf, hk⟩
    · have hd2 : decide ((k : Int) < (to : Int)) = false := by simp; omega
      have he : min to (zs.length - 3) = k := by omega
      have HE := hide he
      clear hh he
      go_wp2
      go_end0
      rw [HE.out]
      exact ⟨rfl, ho, hf, hk⟩
end Go.Proofs.YtmogoephpefenaaDoor
