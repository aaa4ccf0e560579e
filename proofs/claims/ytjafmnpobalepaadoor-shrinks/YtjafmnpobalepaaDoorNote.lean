/-
  (*finder).note: walk; the finder's state as a function of how many places were noted.
-/
import Derived.Test.YtjafmnpobalepaaDoorLong
namespace Go.Proofs.YtjafmnpobalepaaDoor
open Go.RowKit Go.Maps

/-- The distances, when the first k places are noted. -/
def bkN (zs : List Int) (m : Nat) : Nat → List Nat
  | 0 => List.replicate m 0
  | k + 1 => (bkN zs m k).set (k % 65536) (rch k (mrk zs k k))

theorem getD_set {l : List Nat} {i j x : Nat} : (l.set i x).getD j 0 = if i = j ∧ i < l.length then x else l.getD j 0 := by
  simp only [List.getD_eq_getElem?_getD, List.getElem?_set]
  by_cases h : i = j
  · subst h
    by_cases h2 : i < l.length
    · simp [h2]
    · simp [h2]
  · simp [h]
theorem bk_len (zs : List Int) (m k : Nat) : (bkN zs m k).length = m := by
  induction k with
  | zero => exact List.length_replicate
  | succ k ih => simp [bkN, ih]
theorem rep_at (m h : Nat) : (List.replicate m 0 : List Nat).getD h 0 = 0 := by
  simp only [List.getD_eq_getElem?_getD, List.getElem?_replicate]
  split <;> rfl
theorem rch_le (zs : List Int) (p : Nat) : rch p (mrk zs p p) ≤ 65535 ∧ rch p (mrk zs p p) ≤ p := by
  have h1 := mrk_le zs p p
  have h2 := mrk_near zs p p
  unfold rch
  split
  · omega
  · rename_i h
    have := h2 h
    omega
theorem bk_u16 (zs : List Int) (m k i : Nat) : (bkN zs m k).getD i 0 ≤ 65535 := by
  induction k with
  | zero => simp only [bkN, rep_at]; omega
  | succ k ih =>
    simp only [bkN, getD_set]
    split
    · exact (rch_le _ _).1
    · exact ih
/-- The distance that is kept for a place, as long as it is within the window. -/
theorem bk_back (zs : List Int) (m k q : Nat) (hq : q < k) (hw : k ≤ q + 65536) (hm : q % 65536 < m) : (bkN zs m k).getD (q % 65536) 0 = rch q (mrk zs q q) := by
  induction k with
  | zero => omega
  | succ k ih =>
    simp only [bkN, getD_set, bk_len zs m k]
    by_cases h : q = k
    · subst h; simp [hm]
    · have hne : ¬ k % 65536 = q % 65536 := by omega
      simp only [hne, false_and, if_false]
      exact ih (by omega) (by omega)
theorem bk_chain (zs : List Int) (m k q : Nat) (hq : q < k) (hw : k ≤ q + 65536) (hm : q % 65536 < m) : (bkN zs m k).getD (q % 65536) 0 ≤ q := by
  rw [bk_back zs m k q hq hw hm]; exact (rch_le _ _).2

/-- A finder that has noted the first k places. -/
def FinSt (w : World) (F M : Nat) (dv bv : Value) (zs : List Int) (k : Nat) : Prop := FinAt w F M dv bv ∧ ∃ D, MpOwn w M k D ∧ MapIs zs k D

/-- Two blocks alone were written; others may be new. -/
structure Only2 (M K : Nat) (w w' : World) : Prop where
  os : w'.os = w.os
  tape : w'.tape = w.tape
  output : w'.output = w.output
  size : w.heap.size ≤ w'.heap.size
  block : ∀ j, j < w.heap.size → j ≠ M → j ≠ K → w'.heap[j]? = w.heap[j]?

theorem Only2.refl (M K : Nat) (w : World) : Only2 M K w w := ⟨rfl, rfl, rfl, Nat.le_refl _, fun _ _ _ _ => rfl⟩
theorem Only2.trans {M K : Nat} {a b c : World} (h : Only2 M K a b) (g : Only2 M K b c) : Only2 M K a c :=
  ⟨g.os.trans h.os, g.tape.trans h.tape, g.output.trans h.output, Nat.le_trans h.size g.size, fun j h0 h1 h2 => (g.block j (Nat.lt_of_lt_of_le h0 h.size) h1 h2).trans (h.block j h0 h1 h2)⟩
theorem Only2.drewN {M K n : Nat} {a b : World} (h : Only2 M K a b) : Only2 M K a (b.drewN n) := ⟨h.os, h.tape, h.output, h.size, h.block⟩
theorem Only2.setK {M K o : Nat} {a b : World} (h : Only2 M K a b) (v : Value) : Only2 M K a (b.setCell ⟨K, o, none⟩ v) :=
  h.trans ⟨rfl, rfl, rfl, by simp, fun j _ _ h2 => Below.heap_setCell _ _ _ _ h2⟩
theorem Only2.more {M K : Nat} {a b c : World} (h : Only2 M K a b) (g : Below b.heap.size b c) : Only2 M K a c :=
  h.trans ⟨g.os, g.tape, g.output, g.size, fun j h0 _ _ => g.block j h0⟩
theorem Only2.map {M K : Nat} {a b c : World} (h : Only2 M K a b) (g : b.grownBy c (some M)) : Only2 M K a c :=
  h.trans ⟨g.os, g.tape, g.output, g.size, fun j h0 h1 _ => g.block j h0 (fun e => h1 (Option.some.inj e))⟩
theorem Only2.below {M K B : Nat} {a b : World} (h : Only2 M K a b) (hM : B ≤ M) (hK : B ≤ K) (hB : B ≤ a.heap.size) : Below B a b :=
  ⟨h.os, h.tape, h.output, h.size, fun k hk => h.block k (by omega) (by omega) (by omega)⟩

theorem BkAt.set {w : World} {K : Nat} {bs : List Nat} (h : BkAt w K bs) (k x : Nat) : BkAt (w.setCell ⟨K, k, none⟩ (.int .u16 (x : Int))) K (bs.set k x) := by
  unfold BkAt
  rw [heap_setCell_same w K k _ _ _ h]
  simp [List.map_set]
theorem MpOwn.notRow {w : World} {M n S : Nat} {D : DataW Unit} {cs : Array Value} {t : TypeId} {fr : Nat × Nat} (h : MpOwn w M n D) (hS : w.heap[S]? = some (.cells cs t fr)) : S ≠ M := by
  rintro rfl
  obtain ⟨es, clock, hb, _⟩ := h
  rw [hS] at hb
  cases hb

theorem note_no (F M : Nat) (ao : Option Addr) (n c p to : Nat) (bv : Value) (w : World) (hf : FinAt w F M (.slice ao n c) bv) (hn : n ≤ 4194304) (hp : p ≤ n) (h : n < p + 4) (_ht : to ≤ 8388608) :
    Calls Tryd.prog 27 #[.pointer (some ⟨F, 0, none⟩), .int .i64 p, .int .i64 to] w fun e w' => e = .returned (.tuple #[]) ∧ Below w.heap.size w w' := by
  have HH := hide (word_no F M ao n c p bv w hf hn hp h)
  by_cases hpt : p < to
  · have hd2 : decide ((p : Int) < (to : Int)) = true := by simp; omega
    go_enter Tryd.func27, Tryd.ntmps27
    go_wp2
    refine wp_loop_rounds 1 ?_
    rw [rounds_succ]
    go_wp2_with (go_at_call 35; refine HH.out.mono ?_; rintro e w1 ⟨rfl, hb1⟩)
    go_end0
    exact ⟨rfl, hb1.alloc hb1.size _⟩
  · have hd2 : decide ((p : Int) < (to : Int)) = false := by simp; omega
    go_enter Tryd.func27, Tryd.ntmps27
    go_wp2
    refine wp_loop_rounds 1 ?_
    rw [rounds_succ]
    go_wp2
    go_end0
    exact ⟨rfl, Below.refl _ _⟩

/-- forget behind the note of the place k, whether a place is to be forgotten or not. -/
theorem forget_at (F M b off c n k : Nat) (zs : List Int) (bv : Value) (D : DataW Unit) (w : World) (hf : FinAt w F M (.slice (some ⟨b, off, none⟩) zs.length c) bv) (hd : DatAt w b off zs) (hby : Byt zs) (hm : MpOwn w M n D) (hD : MapIsP zs k D)
    (hn : zs.length ≤ 4194304) (hc : zs.length ≤ c) (hp : k + 4 ≤ zs.length) (z : Int) (hz : z = (k : Int) + 1 - 65536) :
    Calls Tryd.prog 38 #[.pointer (some ⟨F, 0, none⟩), .int .i64 z] w fun e w' => e = .returned (.tuple #[]) ∧ w.grownBy w' (some M) ∧ ∃ D', MpOwn w' M n D' ∧ MapIs zs (k + 1) D' := by
  by_cases hk : k < 65535
  · refine (forget_neg F z w (by omega)).mono ?_
    rintro e w' ⟨rfl, rfl⟩
    exact ⟨rfl, below_grown (Below.refl _ _) _, D, hm, hD.near hk⟩
  · obtain ⟨f, hf2⟩ : ∃ f, f + 65536 = k + 1 := ⟨k + 1 - 65536, by omega⟩
    obtain rfl : z = (f : Int) := by omega
    exact forget_any F M b off c n f k zs bv D w hf hd hby hm hD hn hc (by omega) hf2

set_option maxRecDepth 100000 in
set_option maxHeartbeats 4000000 in
theorem note_yes (F M K b off c p to m : Nat) (zs : List Int) (w : World) (hf : FinSt w F M (.slice (some ⟨b, off, none⟩) zs.length c) (.slice (some ⟨K, 0, none⟩) m m) zs p) (hk : BkAt w K (bkN zs m p)) (hd : DatAt w b off zs) (hby : Byt zs)
    (hn : zs.length ≤ 4194304) (hc : zs.length ≤ c) (hm : m = min zs.length 65536) (hp : p + 4 ≤ zs.length) (hpt : p ≤ to) (hto : to ≤ 8388608) (hbM : b ≠ M) (hbK : b ≠ K) :
    Calls Tryd.prog 27 #[.pointer (some ⟨F, 0, none⟩), .int .i64 p, .int .i64 to] w fun e w' => e = .returned (.tuple #[]) ∧ Only2 M K w w' ∧
      FinSt w' F M (.slice (some ⟨b, off, none⟩) zs.length c) (.slice (some ⟨K, 0, none⟩) m m) zs (min to (zs.length - 3)) ∧ BkAt w' K (bkN zs m (min to (zs.length - 3))) := by
  have hblt : b < w.heap.size := World.block_lt_of_cell? w _ (hd 0 (by omega))
  have HM := hide hm
  have hmle : m ≤ 65536 := by omega
  have HBY := hide hby
  have HD := hide hd
  clear hm hby hd
  go_enter Tryd.func27, Tryd.ntmps27
  go_wp2
  go_loopw [6] (fun v6 wr => ∃ k : Nat, v6 = .int .i64 k ∧ p ≤ k ∧ k ≤ to ∧ k + 3 ≤ zs.length ∧ Only2 M K w wr ∧ FinSt wr F M (.slice (some ⟨b, off, none⟩) zs.length c) (.slice (some ⟨K, 0, none⟩) m m) zs k ∧ BkAt wr K (bkN zs m k)) (fun v6 _ => to - (intOf v6).toNat)
  case atStart => exact ⟨p, rfl, Nat.le_refl _, hpt, by omega, Only2.refl _ _ _, hf, hk⟩
  case round =>
    clear hf hk
    obtain ⟨k, rfl, hpk, hkt, hkn, ho, ⟨hf, D, hmo, hMD⟩, hk⟩ := hrel
    by_cases hlt : k < to
    · have hd2 : decide ((k : Int) < (to : Int)) = true := by simp; omega
      by_cases hk4 : k + 4 ≤ zs.length
      · have hdr : DatAt wr b off zs := fun i hi => by
          have := HD.out i hi
          rw [← this]
          exact World.cell?_of_block (a := ⟨b, off + i, none⟩) (ho.block b hblt hbM hbK)
        have hbr : b < wr.heap.size := Nat.lt_of_lt_of_le hblt ho.size
        have hF := hf.lt
        have hM := hmo.lt
        have hK := hk.lt
        have hFM : F ≠ M := hmo.notRow hf
        have hKM : K ≠ M := hmo.notRow hk
        have hFK : F ≠ K := by
          rintro rfl
          unfold FinAt at hf
          unfold BkAt at hk
          rw [hk] at hf
          simp at hf
        have hw := word_yes F M b off c k zs (.slice (some ⟨K, 0, none⟩) m m) wr hf hdr hn hc hk4
        have REACH : Hid (∀ w, FinAt w F M (.slice (some ⟨b, off, none⟩) zs.length c) (.slice (some ⟨K, 0, none⟩) m m) → MpOwn w M k D → Calls Tryd.prog 36 #[.pointer (some ⟨F, 0, none⟩), .int .i64 k, wval zs k] w fun e w' => e = .returned (.int .u16 (rch k (mrk zs k k))) ∧ Below w.heap.size w w') := fun w h1 h2 =>
          reach_any F M k k _ _ zs D w h1 h2 hMD HBY.out hk4
        have hkey := wval_key HBY.out k
        obtain ⟨x0, x1, x2, x3, hx⟩ : ∃ x0 x1 x2 x3, wval zs k = .agg #[.int .u8 x0, .int .u8 x1, .int .u8 x2, .int .u8 x3] := ⟨_, _, _, _, rfl⟩
        rw [hx] at hw REACH hkey
        have hkm : k % 65536 < m := by have := HM.out; omega
        have HS1 : Hid (bkN zs m (k + 1) = (bkN zs m k).set (k % 65536) (rch k (mrk zs k k))) := rfl
        obtain ⟨j, hj⟩ : ∃ j : Nat, k % 65536 = j := ⟨_, rfl⟩
        rw [hj] at hkm HS1
        have hj1 : (k : Int) % 65536 = (j : Int) := by omega
        have hj2 : (k : Int).tmod 65536 = (j : Int) := by rw [Int.tmod_eq_emod_of_nonneg (by omega)]; exact hj1
        have hj3 : (j : Int) < (m : Int) := by omega
        have hj4 : (0 : Int) ≤ (j : Int) := by omega
        generalize hrc : rch k (mrk zs k k) = rc at *
        have HW := hide hw
        have HF := hide hf
        have HK := hide hk
        have HO := hide ho
        have HMO := hide hmo
        have HMD := hide hMD
        have HKEY := hide hkey
        have HDR := hide hdr
        clear hf hk ho hmo hMD hkey hdr hw hx hrc hj
        go_wp2_with fail
        refine HW.out.mono ?_
        rintro e w1 ⟨rfl, hb1⟩
        have hb1' := hb1.alloc hb1.size (.cells #[.int .u8 x0, .int .u8 x1, .int .u8 x2, .int .u8 x3] 84)
        have hs1 : w1.heap.size < (w1.alloc (.cells #[.int .u8 x0, .int .u8 x1, .int .u8 x2, .int .u8 x3] 84)).heap.size := by simp
        have hbox : (w1.alloc (.cells #[.int .u8 x0, .int .u8 x1, .int .u8 x2, .int .u8 x3] 84)).heap[w1.heap.size]? = some (.cells #[.int .u8 x0, .int .u8 x1, .int .u8 x2, .int .u8 x3] 84 (0, 0)) := heap_alloc_new w1 _
        have HBOX := hide hbox
        have HB1 := hide hb1'
        have HS := hide hs1
        have hw1s := hb1.size
        go_wp2_with fail
        obtain ⟨H, hH⟩ : ∃ H, H = w1.heap.size := ⟨_, rfl⟩
        rw [← hH] at hs1 hw1s HBOX ⊢
        generalize hW1 : w1.alloc (.cells #[.int .u8 x0, .int .u8 x1, .int .u8 x2, .int .u8 x3] 84) = W1 at *
        have hfW := HF.out.below HB1.out hF
        have hmW := HMO.out.below HB1.out hM
        have hkW := HK.out.below HB1.out hK
        have hdW := HDR.out.below HB1.out hbr
        have HFW := hide hfW
        have HMW := hide hmW
        have HKW := hide hkW
        have HDW := hide hdW
        have HSF := hide hfW.lt
        have HSM := hide hmW.lt
        have HSK := hide hkW.lt
        have cF := hfW.c2
        have cX0 : W1.cell? ⟨H, 0, none⟩ = some (.int .u8 x0) := by rw [block_cell HBOX.out]; rfl
        have cX1 : W1.cell? ⟨H, 1, none⟩ = some (.int .u8 x1) := by rw [block_cell HBOX.out]; rfl
        have cX2 : W1.cell? ⟨H, 2, none⟩ = some (.int .u8 x2) := by rw [block_cell HBOX.out]; rfl
        have cX3 : W1.cell? ⟨H, 3, none⟩ = some (.int .u8 x3) := by rw [block_cell HBOX.out]; rfl
        have cK := hkW.cell j (by rw [bk_len]; exact hkm)
        have fK := hkW.fz j
        have HRE : Hid (∀ n, Calls Tryd.prog 36 #[.pointer (some ⟨F, 0, none⟩), .int .i64 k, .agg #[.int .u8 x0, .int .u8 x1, .int .u8 x2, .int .u8 x3]] (W1.drewN n) fun e w' => e = .returned (.int .u16 rc) ∧ Below W1.heap.size W1 w') := fun n => (REACH.out (W1.drewN n) hfW hmW).mono (fun e w' ⟨h, hb⟩ => ⟨h, ⟨hb.os, hb.tape, hb.output, hb.size, hb.block⟩⟩)
        have HHS := hide hs1
        have hHK : H ≠ K := by omega
        have ne0 : (⟨K, j, none⟩ : Addr) ≠ ⟨F, 2, none⟩ := fun e => hFK (by cases e; rfl)
        have ne1 : ∀ i, (⟨K, j, none⟩ : Addr) ≠ ⟨H, i, none⟩ := fun i e => hHK (by cases e; rfl)
        generalize (bkN zs m k).getD j 0 = old at cK
        clear hW1 hfW hmW hkW hdW hb1 hb1' hbox HS hs1 hH
        go_region_held3 (fun w' => w'.cell? ⟨F, 2, none⟩ = some (.slice (some ⟨K, 0, none⟩) m m) ∧ w'.cell? ⟨H, 0, none⟩ = some (.int .u8 x0) ∧ w'.cell? ⟨H, 1, none⟩ = some (.int .u8 x1) ∧ w'.cell? ⟨H, 2, none⟩ = some (.int .u8 x2) ∧ w'.cell? ⟨H, 3, none⟩ = some (.int .u8 x3)) (first | exact ⟨cF, cX0, cX1, cX2, cX3⟩ | exact ⟨(hb2.cell (p := ⟨F, 2, none⟩) HSF.out).trans cF, (hb2.cell (p := ⟨H, 0, none⟩) HHS.out).trans cX0, (hb2.cell (p := ⟨H, 1, none⟩) HHS.out).trans cX1, (hb2.cell (p := ⟨H, 2, none⟩) HHS.out).trans cX2, (hb2.cell (p := ⟨H, 3, none⟩) HHS.out).trans cX3⟩ | (refine ⟨?_, ?_, ?_, ?_, ?_⟩ <;> (first | rw [World.cell?_setCell_other _ _ _ _ ne0] | rw [World.cell?_setCell_other _ _ _ _ (ne1 _)]) <;> first | exact (hb2.cell (p := ⟨F, 2, none⟩) HSF.out).trans cF | exact (hb2.cell (p := ⟨H, 0, none⟩) HHS.out).trans cX0 | exact (hb2.cell (p := ⟨H, 1, none⟩) HHS.out).trans cX1 | exact (hb2.cell (p := ⟨H, 2, none⟩) HHS.out).trans cX2 | exact (hb2.cell (p := ⟨H, 3, none⟩) HHS.out).trans cX3) | go_keep) (first | (go_at_call 36; refine (HRE.out _).mono ?_; rintro e w2 ⟨rfl, hb2⟩; have cK2 := (hb2.cell (p := ⟨K, j, none⟩) HSK.out).trans cK; have fK2 := (hb2.frozen (p := ⟨K, j, none⟩) HSK.out).trans fK))
        have hf3 : FinAt (w2.setCell ⟨K, j, none⟩ (.int .u16 (rc : Int))) F M (.slice (some ⟨b, off, none⟩) zs.length c) (.slice (some ⟨K, 0, none⟩) m m) :=
          (Below.heap_setCell w2 ⟨K, j, none⟩ _ F hFK).trans (HFW.out.below hb2 HSF.out)
        have hm3 : MpOwn (w2.setCell ⟨K, j, none⟩ (.int .u16 (rc : Int))) M k D := World.ownsMap.setCell (HMW.out.below hb2 HSM.out) (fun e => hKM e.symm) _
        have hk3 : BkAt (w2.setCell ⟨K, j, none⟩ (.int .u16 (rc : Int))) K (bkN zs m (k + 1)) := by
          rw [HS1.out]; exact (HKW.out.below hb2 HSK.out).set j rc
        have hx3 : (w2.setCell ⟨K, j, none⟩ (.int .u16 (rc : Int))).heap[H]? = some (.cells #[.int .u8 x0, .int .u8 x1, .int .u8 x2, .int .u8 x3] 84 (0, 0)) :=
          (Below.heap_setCell w2 ⟨K, j, none⟩ _ H hHK).trans ((hb2.block H HHS.out).trans HBOX.out)
        have hd3 : DatAt (w2.setCell ⟨K, j, none⟩ (.int .u16 (rc : Int))) b off zs := fun i hi => by
          rw [World.cell?_of_block (w := w2) (a := ⟨b, off + i, none⟩) (Below.heap_setCell w2 ⟨K, j, none⟩ _ b hbK)]
          exact HDW.out.below hb2 (Nat.lt_of_lt_of_le hbr HB1.out.size) i hi
        have ho3 : Only2 M K w (w2.setCell ⟨K, j, none⟩ (.int .u16 (rc : Int))) := ((HO.out.more HB1.out).more hb2).setK _
        generalize w2.setCell ⟨K, j, none⟩ (.int .u16 (rc : Int)) = w3 at *
        have cF3 := hf3.c1
        have cY0 : w3.cell? ⟨H, 0, none⟩ = some (.int .u8 x0) := by rw [block_cell hx3]; rfl
        have cY1 : w3.cell? ⟨H, 1, none⟩ = some (.int .u8 x1) := by rw [block_cell hx3]; rfl
        have cY2 : w3.cell? ⟨H, 2, none⟩ = some (.int .u8 x2) := by rw [block_cell hx3]; rfl
        have cY3 : w3.cell? ⟨H, 3, none⟩ = some (.int .u8 x3) := by rw [block_cell hx3]; rfl
        obtain ⟨w4, hrun4, hm4, ht4⟩ := World.ownsMap.store (w := w3.drew) (World.ownsMap.drew hm3) word_law Tryd.underlying79 (by unfold maxLen; omega) HKEY.out (plainElem_int (a := (k : Int)) Tryd.underlying3 (WalkArith.wf_i64 (by omega)))
        have hg4 : w3.grownBy w4 (some M) := ⟨ht4.grown.os, ht4.grown.tape, ht4.grown.output, ht4.grown.size, ht4.grown.block⟩
        have HM4 := hide hm4
        have HG4 := hide hg4
        clear hm4 ht4 hg4
        have HF3 := hide hf3
        have HK3 := hide hk3
        have HD3 := hide hd3
        have HO3 := hide ho3
        clear hf3 hm3 hk3 hd3 ho3 hx3 hb2 cK2 fK2 cF cX0 cX1 cX2 cX3 cK fK
        go_wp2
        go_region
        have hf4 : FinAt w4 F M (.slice (some ⟨b, off, none⟩) zs.length c) (.slice (some ⟨K, 0, none⟩) m m) := (HG4.out.block F HF3.out.lt (fun e => hFM (Option.some.inj e))).trans HF3.out
        have hk4' : BkAt w4 K (bkN zs m (k + 1)) := (HG4.out.block K HK3.out.lt (fun e => hKM (Option.some.inj e))).trans HK3.out
        have hd4 : DatAt w4 b off zs := fun i hi => by
          have hl := World.block_lt_of_cell? w3 _ (HD3.out i hi)
          rw [World.cell?_of_block (w := w3) (a := ⟨b, off + i, none⟩) (HG4.out.block b hl (fun e => hbM (Option.some.inj e)))]
          exact HD3.out i hi
        have ho4 := HO3.out.map HG4.out
        have hfo := forget_at F M b off c (k + 1) k zs _ _ w4 hf4 hd4 HBY.out HM4.out HMD.out.put hn hc hk4 ((k : Int) + 1 - 65536) rfl
        have HFO := hide hfo
        have HF4 := hide hf4
        have HK4 := hide hk4'
        have HO4 := hide ho4
        clear hf4 hk4' hd4 hfo ho4 cF3 cY0 cY1 cY2 cY3 hrun4
        go_wp2_with fail
        refine HFO.out.mono ?_
        rintro e w5 ⟨rfl, hg5, D5, hm5, hMD5⟩
        go_wp2
        go_roundw
        case rel => exact ⟨k + 1, by go_num, by omega, by omega, by omega, HO4.out.map hg5, ⟨(hg5.block F HF4.out.lt (fun e => hFM (Option.some.inj e))).trans HF4.out, D5, hm5, hMD5⟩, (hg5.block K HK4.out.lt (fun e => hKM (Option.some.inj e))).trans HK4.out⟩
        case measure => simp [intOf]; omega
      · have HH := hide (word_no F M (some ⟨b, off, none⟩) zs.length c k (.slice (some ⟨K, 0, none⟩) m m) wr hf hn (by omega) (by omega))
        have he : min to (zs.length - 3) = k := by omega
        have HE := hide he
        clear he
        go_wp2_with (go_at_call 35; refine HH.out.mono ?_; rintro e w1 ⟨rfl, hb1⟩)
        go_end0
        rw [HE.out]
        have hbA := hb1.alloc hb1.size (.cells #[.int .u8 0, .int .u8 0, .int .u8 0, .int .u8 0] 84)
        exact ⟨rfl, ho.more hbA, ⟨hf.below hbA hf.lt, D, hmo.below hbA hmo.lt, hMD⟩, hk.below hbA hk.lt⟩
    · have hd2 : decide ((k : Int) < (to : Int)) = false := by simp; omega
      have he : min to (zs.length - 3) = k := by omega
      have HE := hide he
      clear he
      go_wp2
      go_end0
      rw [HE.out]
      exact ⟨rfl, ho, ⟨hf, D, hmo, hMD⟩, hk⟩
end Go.Proofs.YtjafmnpobalepaaDoor
