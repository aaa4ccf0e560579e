/-
  (*finder).longest: walk.
-/
import Derived.Test.YtjafmnpobalepaaDoorFin
namespace Go.Proofs.YtjafmnpobalepaaDoor
open Go.RowKit

/-- The chain from a place back, behind so many steps: how far, and how far it goes on. -/
def chn (bs : List Nat) (p first : Nat) : Nat → Nat × Nat
  | 0 => (0, first)
  | k + 1 => ((chn bs p first k).1 + (chn bs p first k).2, bs.getD ((p - ((chn bs p first k).1 + (chn bs p first k).2)) % 65536) 0)

/-- A copy that is right. -/
def Good (zs : List Int) (p most dist count : Nat) : Prop :=
  count = 0 ∨ (1 ≤ dist ∧ dist ≤ p ∧ dist ≤ 65535 ∧ count ≤ most ∧ ∀ i, i < count → zs.getD (p + i) 0 = zs.getD (p - dist + i) 0)

/-- It is at least as long as that of each place of the chain up to the k-th. -/
def Best (zs : List Int) (bs : List Nat) (p first most count k : Nat) : Prop :=
  ∀ j, 1 ≤ j → j ≤ k → ∀ m, m ≤ most → (∀ i, i < m → zs.getD (p + i) 0 = zs.getD (p - (chn bs p first j).1 + i) 0) → m ≤ count

/-- What longest finds. -/
def Lng (zs : List Int) (bs : List Nat) (p first most dist count : Nat) : Prop :=
  Good zs p most dist count ∧ ∃ K, K ≤ 128 ∧ Best zs bs p first most count K ∧ (K = 128 ∨ count = most ∨ (chn bs p first K).2 = 0 ∨ (chn bs p first K).1 + (chn bs p first K).2 > 65535)

theorem Good.zero (zs : List Int) (p most dist : Nat) : Good zs p most dist 0 := Or.inl rfl

theorem Good.alk {zs : List Int} {p most far count r : Nat} (h : Alk zs p (p - far) count most r) (h1 : 1 ≤ far) (h2 : far ≤ p) (h3 : far ≤ 65535) (hr : count < r) : Good zs p most far r := by
  rcases h with ⟨_, rfl⟩ | ⟨_, h5, h6, _⟩
  · omega
  · exact Or.inr ⟨h1, h2, h3, h5, h6⟩

theorem Best.alk {zs : List Int} {bs : List Nat} {p first most count k r c : Nat} (hb : Best zs bs p first most count k) (h : Alk zs p (p - (chn bs p first (k + 1)).1) count most r) (hc1 : count ≤ c) (hc2 : r ≤ c) :
    Best zs bs p first most c (k + 1) := by
  intro j hj1 hj2 m hm heq
  by_cases hjk : j ≤ k
  · exact Nat.le_trans (hb j hj1 hjk m hm heq) hc1
  · obtain rfl : j = k + 1 := by omega
    rcases h with ⟨hne, rfl⟩ | ⟨_, h5, h6, h7⟩
    · rcases Nat.lt_or_ge count m with h | h
      · exact absurd (heq count h) hne
      · omega
    · rcases Nat.lt_or_ge r m with h | h
      · exact absurd (heq r h) (h7 (by omega))
      · omega

theorem Fin.narrow {w w' : World} {B B' : Nat} (h : Below B w w') (hb : B' ≤ B) : Below B' w w' := ⟨h.os, h.tape, h.output, h.size, fun k hk => h.block k (Nat.lt_of_lt_of_le hk hb)⟩
theorem FinAt.below {w w' : World} {F M B : Nat} {dv bv : Value} (h : FinAt w F M dv bv) (hb : Below B w w') (hF : F < B) : FinAt w' F M dv bv := (hb.block F hF).trans h
theorem BkAt.below {w w' : World} {K B : Nat} {bs : List Nat} (h : BkAt w K bs) (hb : Below B w w') (hK : K < B) : BkAt w' K bs := (hb.block K hK).trans h
theorem DatAt.below {w w' : World} {b off B : Nat} {zs : List Int} (h : DatAt w b off zs) (hb : Below B w w') (hlt : b < B) : DatAt w' b off zs := fun i hi => by
  rw [hb.cell (p := ⟨b, off + i, none⟩) hlt]; exact h i hi

theorem longest_short (F M : Nat) (ao : Option Addr) (n c p : Nat) (bv : Value) (w : World) (hf : FinAt w F M (.slice ao n c) bv) (hn : n ≤ 4194304) (hp : p ≤ n) (h : n < p + 4) :
    Calls Tryd.prog 26 #[.pointer (some ⟨F, 0, none⟩), .int .i64 p] w fun e w' => e = .returned (.tuple #[.int .i64 0, .int .i64 0]) ∧ Below w.heap.size w w' := by
  have HH := hide (word_no F M ao n c p bv w hf hn hp h)
  go_enter Tryd.func26, Tryd.ntmps26
  go_wp2_with (go_at_call 35; refine HH.out.mono ?_; rintro e w1 ⟨rfl, hb1⟩)
  go_ret2
  exact ⟨rfl, hb1.alloc hb1.size _⟩

set_option maxRecDepth 100000 in
set_option maxHeartbeats 4000000 in
theorem longest_near (F M K b off c p n most : Nat) (zs : List Int) (bs : List Nat) (D : DataW Unit) (w : World) (hf : FinAt w F M (.slice (some ⟨b, off, none⟩) zs.length c) (.slice (some ⟨K, 0, none⟩) bs.length bs.length)) (hmp : MpOwn w M n D) (hMD : MapIs zs p D) (hk : BkAt w K bs) (hd : DatAt w b off zs) (hby : Byt zs)
    (hn : zs.length ≤ 4194304) (hc : zs.length ≤ c) (hp : p + 4 ≤ zs.length) (hm : (zs.length : Int) - (p : Int) = (most : Int)) (hm1 : most ≤ 130) (hbl : bs.length = min zs.length 65536)
    (hch : ∀ q, q < p → p - q ≤ 65535 → bs.getD (q % 65536) 0 ≤ q) (hbb : ∀ i, bs.getD i 0 ≤ 65535) :
    Calls Tryd.prog 26 #[.pointer (some ⟨F, 0, none⟩), .int .i64 p] w fun e w' => ∃ dist count : Nat, e = .returned (.tuple #[.int .i64 dist, .int .i64 count]) ∧ Lng zs bs p (rch p (mrk zs p p)) most dist count ∧ Below w.heap.size w w' := by
  have hlt0 : b < w.heap.size := World.block_lt_of_cell? w _ (hd 0 (by omega))
  have hF := hf.lt
  have hM := hmp.lt
  have hK := hk.lt
  have hr1 : rch p (mrk zs p p) ≤ p := by have := mrk_le zs p p; unfold rch; split <;> omega
  have hr2 : rch p (mrk zs p p) ≤ 65535 := by have := mrk_near zs p p; unfold rch; split <;> omega
  have hw := word_yes F M b off c p zs (.slice (some ⟨K, 0, none⟩) bs.length bs.length) w hf hd hn hc hp
  have REACH : Hid (∀ w, FinAt w F M (.slice (some ⟨b, off, none⟩) zs.length c) (.slice (some ⟨K, 0, none⟩) bs.length bs.length) → MpOwn w M n D → Calls Tryd.prog 36 #[.pointer (some ⟨F, 0, none⟩), .int .i64 p, wval zs p] w fun e w' => e = .returned (.int .u16 (rch p (mrk zs p p))) ∧ Below w.heap.size w w') := fun w h1 h2 =>
    reach_any F M n p _ _ zs D w h1 h2 hMD hby hp
  obtain ⟨x0, x1, x2, x3, hx⟩ : ∃ x0 x1 x2 x3, wval zs p = .agg #[.int .u8 x0, .int .u8 x1, .int .u8 x2, .int .u8 x3] := ⟨_, _, _, _, rfl⟩
  rw [hx] at hw REACH
  have HW := hide hw
  have HF := hide hf
  have HD := hide hd
  have HB := hide hk
  have HCH := hide hch
  have HBB := hide hbb
  have HBL := hide hbl
  have HMP := hide hmp
  clear hf hd hk hch hbb hbl hby hmp hMD hw hx
  have hmn : p + most ≤ zs.length := by omega
  have hm4 : 4 ≤ most := by omega
  generalize hfirst : rch p (mrk zs p p) = first at *
  clear hfirst
  go_enter Tryd.func26, Tryd.ntmps26
  go_wp2_with fail
  refine HW.out.mono ?_
  rintro e w1 ⟨rfl, hb1⟩
  have hf1 := HF.out.below hb1 hF
  have hm1 := HMP.out.below hb1 hM
  have c0 := hf1.c0
  have hF1 := hf1.lt
  have hbA := hb1.alloc hb1.size (.cells #[.int .u8 x0, .int .u8 x1, .int .u8 x2, .int .u8 x3] 84)
  have hRE := REACH.out (w1.alloc (.cells #[.int .u8 x0, .int .u8 x1, .int .u8 x2, .int .u8 x3] 84)) (alloc_block hf1 _) (World.ownsMap.alloc hm1 _)
  have HRE := hide hRE
  have HBA := hide hbA
  clear hRE hbA hf1 hm1
  go_wp2_with (go_at_call 36; refine HRE.out.mono ?_; rintro e w2 ⟨rfl, hb2⟩)
  have hb2' : Below w.heap.size w w2 := HBA.out.trans (Fin.narrow hb2 HBA.out.size)
  have hf2 := HF.out.below hb2' hF
  have hd2 := HD.out.below hb2' hlt0
  have hk2 := HB.out.below hb2' hK
  have HFF := hide hf2
  have HDD := hide hd2
  have HKK := hide hk2
  have HB2 := hide hb2'
  have cb := hf2.c2
  have ALIKE : Hid (∀ m q count, q ≤ p → count < most → Calls Tryd.prog 37 #[.pointer (some ⟨F, 0, none⟩), .int .i64 (p : Int), .int .i64 ((q : Nat) : Int), .int .i64 ((count : Nat) : Int), .int .i64 (most : Int)] (w2.drewN m) fun e w' => ∃ r, e = .returned (.int .i64 ((r : Nat) : Int)) ∧ Alk zs p q count most r ∧ ∃ k, w' = w2.drewN (m + k)) := fun m q count h1 h2 => by
    refine (alike_any F M b off c p q count most zs _ (w2.drewN m) HFF.out HDD.out hn hmn h1 h2).mono ?_
    rintro e w' ⟨r, rfl, ha, k, rfl⟩
    exact ⟨r, rfl, ha, k, by rw [World.drewN_drewN]⟩
  clear hf2 hd2 hk2 hb2 hb2' c0
  go_loopw [4, 5, 9, 10, 32] (fun v4 v5 v7 v8 v33 wr => ∃ k far next dist count : Nat, v4 = .int .i64 dist ∧ v5 = .int .i64 count ∧ v7 = .int .i64 far ∧ v8 = .int .u16 next ∧ v33 = .int .i64 k ∧ k ≤ 128 ∧ Hid (chn bs p first k = (far, next)) ∧ far + next ≤ p ∧ next ≤ 65535 ∧ count < most ∧ Hid (Good zs p most dist count) ∧ Hid (Best zs bs p first most count k) ∧ ∃ m, wr = w2.drewN m) (fun _ _ _ _ v33 _ => 128 - (intOf v33).toNat)
  case atStart => exact ⟨0, 0, first, 0, 0, rfl, rfl, rfl, rfl, rfl, by omega, rfl, by omega, hr2, by omega, Good.zero _ _ _ _, fun j h1 h2 => absurd h1 (by omega), 0, rfl⟩
  case round =>
    obtain ⟨k, far, next, dist, count, rfl, rfl, rfl, rfl, rfl, hk, HC, hfn, hn65, hcm, HG, HBE, m, rfl⟩ := hrel
    by_cases hk1 : k < 128
    · have hki : (k : Int) < 128 := by omega
      by_cases hn0 : next = 0
      · have hd0 : ((next : Int) == 0) = true := by simp [hn0]
        have HN0 := hide hn0
        clear hn0
        go_wp2
        go_ret2
        exact ⟨dist, count, rfl, ⟨HG.out, k, hk, HBE.out, Or.inr (Or.inr (Or.inl (by rw [HC.out]; exact HN0.out)))⟩, Fin.drewB HB2.out m⟩
      · have hd0 : ((next : Int) == 0) = false := by simp; omega
        have hn1 : 1 ≤ next := by omega
        clear hn0
        by_cases hf : 65535 < far + next
        · have hfi : (65535 : Int) < (far : Int) + (next : Int) := by omega
          go_wp2
          go_ret2
          exact ⟨dist, count, rfl, ⟨HG.out, k, hk, HBE.out, Or.inr (Or.inr (Or.inr (by rw [HC.out]; exact hf)))⟩, Fin.drewB HB2.out m⟩
        · have hfi : ¬ (65535 : Int) < (far : Int) + (next : Int) := by omega
          obtain ⟨q, hq⟩ : ∃ q : Nat, q = p - (far + next) := ⟨_, rfl⟩
          have hq1 : (p : Int) - ((far : Int) + (next : Int)) = (q : Int) := by omega
          have hqp : q < p := by omega
          have HQ := hide hq
          have hqb : (q : Int) % 65536 < (bs.length : Int) := by have := HBL.out; omega
          have cq : w2.cell? ⟨K, q % 65536, none⟩ = some (.int .u16 ((bs.getD (q % 65536) 0 : Nat) : Int)) := HKK.out.cell _ (by omega)
          have HCS : Hid (chn bs p first (k + 1) = (far + next, bs.getD (q % 65536) 0)) := by
            unfold Hid; rw [HQ.out]; simp only [chn, HC.out]
          have hx1 : bs.getD (q % 65536) 0 ≤ q := HCH.out q hqp (by omega)
          have hx2 : bs.getD (q % 65536) 0 ≤ 65535 := HBB.out _
          generalize bs.getD (q % 65536) 0 = nx at *
          clear hq
          go_wp2_with fail
          refine (ALIKE.out m q count (by omega) hcm).mono ?_
          rintro e w2 ⟨r, rfl, halk, m2, rfl⟩
          have HA := hide halk
          clear halk
          have HA2 : Hid (Alk zs p (p - (chn bs p first (k + 1)).1) count most r) := by unfold Hid; rw [HCS.out]; have := HA.out; rw [HQ.out] at this; exact this
          have HA3 : Hid (Alk zs p (p - (far + next)) count most r) := by unfold Hid; rw [← HQ.out]; exact HA.out
          have hrm : r ≤ most := by
            rcases HA.out with ⟨_, h⟩ | ⟨_, h, _⟩
            · omega
            · exact h
          by_cases hrc : count < r
          · have hrc' : (count : Int) < (r : Int) := by omega
            by_cases hrM : r = most
            · have hrM' : ((r : Int) == (most : Int)) = true := by simp [hrM]
              have HRM := hide hrM
              clear hrM
              go_wp2
              go_ret2
              refine ⟨far + next, r, by simp, ⟨Good.alk HA3.out (by omega) (by omega) (by omega) hrc, k + 1, by omega, Best.alk HBE.out HA2.out (by omega) (Nat.le_refl _), Or.inr (Or.inl HRM.out)⟩, Fin.drewB HB2.out _⟩
            · have hrM' : ((r : Int) == (most : Int)) = false := by simp; omega
              have hrM2 : r < most := by omega
              clear hrM
              go_wp2
              go_roundw
              case rel => exact ⟨k + 1, far + next, nx, far + next, r, by go_num, rfl, by go_num, rfl, by go_num, by omega, HCS.out, by omega, hx2, hrM2, Good.alk HA3.out (by omega) (by omega) (by omega) hrc, Best.alk HBE.out HA2.out (by omega) (Nat.le_refl _), _, rfl⟩
              case measure => simp [intOf]; omega
          · have hrc' : ¬ (count : Int) < (r : Int) := by omega
            have hrM' : ((count : Int) == (most : Int)) = false := by simp; omega
            go_wp2
            go_roundw
            case rel => exact ⟨k + 1, far + next, nx, dist, count, rfl, rfl, by go_num, rfl, by go_num, by omega, HCS.out, by omega, hx2, hcm, HG.out, Best.alk HBE.out HA2.out (Nat.le_refl _) (by omega), _, rfl⟩
            case measure => simp [intOf]; omega
    · obtain rfl : k = 128 := by omega
      go_wp2
      go_ret2
      exact ⟨dist, count, rfl, ⟨HG.out, 128, Nat.le_refl _, HBE.out, Or.inl rfl⟩, Fin.drewB HB2.out m⟩
set_option maxRecDepth 100000 in
set_option maxHeartbeats 4000000 in
theorem longest_far (F M K b off c p n : Nat) (zs : List Int) (bs : List Nat) (D : DataW Unit) (w : World) (hf : FinAt w F M (.slice (some ⟨b, off, none⟩) zs.length c) (.slice (some ⟨K, 0, none⟩) bs.length bs.length)) (hmp : MpOwn w M n D) (hMD : MapIs zs p D) (hk : BkAt w K bs) (hd : DatAt w b off zs) (hby : Byt zs)
    (hn : zs.length ≤ 4194304) (hc : zs.length ≤ c) (hp : p + 4 ≤ zs.length) (hm : p + 130 < zs.length) (hbl : bs.length = min zs.length 65536)
    (hch : ∀ q, q < p → p - q ≤ 65535 → bs.getD (q % 65536) 0 ≤ q) (hbb : ∀ i, bs.getD i 0 ≤ 65535) :
    Calls Tryd.prog 26 #[.pointer (some ⟨F, 0, none⟩), .int .i64 p] w fun e w' => ∃ dist count : Nat, e = .returned (.tuple #[.int .i64 dist, .int .i64 count]) ∧ Lng zs bs p (rch p (mrk zs p p)) 130 dist count ∧ Below w.heap.size w w' := by
  have hlt0 : b < w.heap.size := World.block_lt_of_cell? w _ (hd 0 (by omega))
  have hF := hf.lt
  have hM := hmp.lt
  have hK := hk.lt
  have hr1 : rch p (mrk zs p p) ≤ p := by have := mrk_le zs p p; unfold rch; split <;> omega
  have hr2 : rch p (mrk zs p p) ≤ 65535 := by have := mrk_near zs p p; unfold rch; split <;> omega
  have hw := word_yes F M b off c p zs (.slice (some ⟨K, 0, none⟩) bs.length bs.length) w hf hd hn hc hp
  have REACH : Hid (∀ w, FinAt w F M (.slice (some ⟨b, off, none⟩) zs.length c) (.slice (some ⟨K, 0, none⟩) bs.length bs.length) → MpOwn w M n D → Calls Tryd.prog 36 #[.pointer (some ⟨F, 0, none⟩), .int .i64 p, wval zs p] w fun e w' => e = .returned (.int .u16 (rch p (mrk zs p p))) ∧ Below w.heap.size w w') := fun w h1 h2 =>
    reach_any F M n p _ _ zs D w h1 h2 hMD hby hp
  obtain ⟨x0, x1, x2, x3, hx⟩ : ∃ x0 x1 x2 x3, wval zs p = .agg #[.int .u8 x0, .int .u8 x1, .int .u8 x2, .int .u8 x3] := ⟨_, _, _, _, rfl⟩
  rw [hx] at hw REACH
  have HW := hide hw
  have HF := hide hf
  have HD := hide hd
  have HB := hide hk
  have HCH := hide hch
  have HBB := hide hbb
  have HBL := hide hbl
  have HMP := hide hmp
  clear hf hd hk hch hbb hbl hby hmp hMD hw hx
  have hmn : p + 130 ≤ zs.length := by omega
  generalize hfirst : rch p (mrk zs p p) = first at *
  clear hfirst
  go_enter Tryd.func26, Tryd.ntmps26
  go_wp2_with fail
  refine HW.out.mono ?_
  rintro e w1 ⟨rfl, hb1⟩
  have hf1 := HF.out.below hb1 hF
  have hm1 := HMP.out.below hb1 hM
  have c0 := hf1.c0
  have hF1 := hf1.lt
  have hbA := hb1.alloc hb1.size (.cells #[.int .u8 x0, .int .u8 x1, .int .u8 x2, .int .u8 x3] 84)
  have hRE := REACH.out (w1.alloc (.cells #[.int .u8 x0, .int .u8 x1, .int .u8 x2, .int .u8 x3] 84)) (alloc_block hf1 _) (World.ownsMap.alloc hm1 _)
  have HRE := hide hRE
  have HBA := hide hbA
  clear hRE hbA hf1 hm1
  go_wp2_with (go_at_call 36; refine HRE.out.mono ?_; rintro e w2 ⟨rfl, hb2⟩)
  have hb2' : Below w.heap.size w w2 := HBA.out.trans (Fin.narrow hb2 HBA.out.size)
  have hf2 := HF.out.below hb2' hF
  have hd2 := HD.out.below hb2' hlt0
  have hk2 := HB.out.below hb2' hK
  have HFF := hide hf2
  have HDD := hide hd2
  have HKK := hide hk2
  have HB2 := hide hb2'
  have cb := hf2.c2
  have ALIKE : Hid (∀ m q count, q ≤ p → count < 130 → Calls Tryd.prog 37 #[.pointer (some ⟨F, 0, none⟩), .int .i64 (p : Int), .int .i64 ((q : Nat) : Int), .int .i64 ((count : Nat) : Int), .int .i64 130] (w2.drewN m) fun e w' => ∃ r, e = .returned (.int .i64 ((r : Nat) : Int)) ∧ Alk zs p q count 130 r ∧ ∃ k, w' = w2.drewN (m + k)) := fun m q count h1 h2 => by
    refine (alike_any F M b off c p q count 130 zs _ (w2.drewN m) HFF.out HDD.out hn hmn h1 h2).mono ?_
    rintro e w' ⟨r, rfl, ha, k, rfl⟩
    exact ⟨r, rfl, ha, k, by rw [World.drewN_drewN]⟩
  clear hf2 hd2 hk2 hb2 hb2' c0
  go_loopw [4, 5, 9, 10, 32] (fun v4 v5 v7 v8 v33 wr => ∃ k far next dist count : Nat, v4 = .int .i64 dist ∧ v5 = .int .i64 count ∧ v7 = .int .i64 far ∧ v8 = .int .u16 next ∧ v33 = .int .i64 k ∧ k ≤ 128 ∧ Hid (chn bs p first k = (far, next)) ∧ far + next ≤ p ∧ next ≤ 65535 ∧ count < 130 ∧ Hid (Good zs p 130 dist count) ∧ Hid (Best zs bs p first 130 count k) ∧ ∃ m, wr = w2.drewN m) (fun _ _ _ _ v33 _ => 128 - (intOf v33).toNat)
  case atStart => exact ⟨0, 0, first, 0, 0, rfl, rfl, rfl, rfl, rfl, by omega, rfl, by omega, hr2, by omega, Good.zero _ _ _ _, fun j h1 h2 => absurd h1 (by omega), 0, rfl⟩
  case round =>
    obtain ⟨k, far, next, dist, count, rfl, rfl, rfl, rfl, rfl, hk, HC, hfn, hn65, hcm, HG, HBE, m, rfl⟩ := hrel
    by_cases hk1 : k < 128
    · have hki : (k : Int) < 128 := by omega
      by_cases hn0 : next = 0
      · have hd0 : ((next : Int) == 0) = true := by simp [hn0]
        have HN0 := hide hn0
        clear hn0
        go_wp2
        go_ret2
        exact ⟨dist, count, rfl, ⟨HG.out, k, hk, HBE.out, Or.inr (Or.inr (Or.inl (by rw [HC.out]; exact HN0.out)))⟩, Fin.drewB HB2.out m⟩
      · have hd0 : ((next : Int) == 0) = false := by simp; omega
        have hn1 : 1 ≤ next := by omega
        clear hn0
        by_cases hf : 65535 < far + next
        · have hfi : (65535 : Int) < (far : Int) + (next : Int) := by omega
          go_wp2
          go_ret2
          exact ⟨dist, count, rfl, ⟨HG.out, k, hk, HBE.out, Or.inr (Or.inr (Or.inr (by rw [HC.out]; exact hf)))⟩, Fin.drewB HB2.out m⟩
        · have hfi : ¬ (65535 : Int) < (far : Int) + (next : Int) := by omega
          obtain ⟨q, hq⟩ : ∃ q : Nat, q = p - (far + next) := ⟨_, rfl⟩
          have hq1 : (p : Int) - ((far : Int) + (next : Int)) = (q : Int) := by omega
          have hqp : q < p := by omega
          have HQ := hide hq
          have hqb : (q : Int) % 65536 < (bs.length : Int) := by have := HBL.out; omega
          have cq : w2.cell? ⟨K, q % 65536, none⟩ = some (.int .u16 ((bs.getD (q % 65536) 0 : Nat) : Int)) := HKK.out.cell _ (by omega)
          have HCS : Hid (chn bs p first (k + 1) = (far + next, bs.getD (q % 65536) 0)) := by
            unfold Hid; rw [HQ.out]; simp only [chn, HC.out]
          have hx1 : bs.getD (q % 65536) 0 ≤ q := HCH.out q hqp (by omega)
          have hx2 : bs.getD (q % 65536) 0 ≤ 65535 := HBB.out _
          generalize bs.getD (q % 65536) 0 = nx at *
          clear hq
          go_wp2_with fail
          refine (ALIKE.out m q count (by omega) hcm).mono ?_
          rintro e w2 ⟨r, rfl, halk, m2, rfl⟩
          have HA := hide halk
          clear halk
          have HA2 : Hid (Alk zs p (p - (chn bs p first (k + 1)).1) count 130 r) := by unfold Hid; rw [HCS.out]; have := HA.out; rw [HQ.out] at this; exact this
          have HA3 : Hid (Alk zs p (p - (far + next)) count 130 r) := by unfold Hid; rw [← HQ.out]; exact HA.out
          have hrm : r ≤ 130 := by
            rcases HA.out with ⟨_, h⟩ | ⟨_, h, _⟩
            · omega
            · exact h
          by_cases hrc : count < r
          · have hrc' : (count : Int) < (r : Int) := by omega
            by_cases hrM : r = 130
            · have hrM' : ((r : Int) == 130) = true := by simp [hrM]
              have HRM := hide hrM
              clear hrM
              go_wp2
              go_ret2
              refine ⟨far + next, r, by simp, ⟨Good.alk HA3.out (by omega) (by omega) (by omega) hrc, k + 1, by omega, Best.alk HBE.out HA2.out (by omega) (Nat.le_refl _), Or.inr (Or.inl HRM.out)⟩, Fin.drewB HB2.out _⟩
            · have hrM' : ((r : Int) == 130) = false := by simp; omega
              have hrM2 : r < 130 := by omega
              clear hrM
              go_wp2
              go_roundw
              case rel => exact ⟨k + 1, far + next, nx, far + next, r, by go_num, rfl, by go_num, rfl, by go_num, by omega, HCS.out, by omega, hx2, hrM2, Good.alk HA3.out (by omega) (by omega) (by omega) hrc, Best.alk HBE.out HA2.out (by omega) (Nat.le_refl _), _, rfl⟩
              case measure => simp [intOf]; omega
          · have hrc' : ¬ (count : Int) < (r : Int) := by omega
            have hrM' : ((count : Int) == 130) = false := by simp; omega
            go_wp2
            go_roundw
            case rel => exact ⟨k + 1, far + next, nx, dist, count, rfl, rfl, by go_num, rfl, by go_num, by omega, HCS.out, by omega, hx2, hcm, HG.out, Best.alk HBE.out HA2.out (Nat.le_refl _) (by omega), _, rfl⟩
            case measure => simp [intOf]; omega
    · obtain rfl : k = 128 := by omega
      go_wp2
      go_ret2
      exact ⟨dist, count, rfl, ⟨HG.out, 128, Nat.le_refl _, HBE.out, Or.inl rfl⟩, Fin.drewB HB2.out m⟩
end Go.Proofs.YtjafmnpobalepaaDoor
