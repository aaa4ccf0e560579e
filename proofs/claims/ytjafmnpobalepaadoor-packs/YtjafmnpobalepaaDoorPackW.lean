/-
  packing.Pack, segments.Pack: the walks.
-/
import Derived.Test.YtjafmnpobalepaaDoorPack
namespace Go.Proofs.YtjafmnpobalepaaDoor
open Go.RowKit

theorem pack_nil (ao : Option Addr) (c : Nat) (w : World) :
    Calls Tryd.prog 18 #[.slice ao 0 c] w fun e w' => ∃ v' res, e = .returned v' ∧ Own w' w.heap.size v' res ∧ PackRes [] res ∧ Below w.heap.size w w' := by
  go_enter Tryd.func18, Tryd.ntmps18
  go_wp2_with (go_at_call 25; refine (new_any ao 0 c 0 _ (by omega) (Or.inl ⟨by omega, rfl⟩)).mono ?_; rintro e w1 ⟨F, M, K, rfl, hF, hM, hK, hfin, hmp, hbk, hb1⟩)
  refine wp_loop_rounds 1 ?_
  rw [rounds_succ]
  go_wp2_with (go_at_call 28; refine (putPlain_n w.heap.size _ _ 0 _ [] [] _ rfl hb1.size (Own.nil _ _) ⟨by simp, fun h => absurd rfl h⟩ (by simp)).mono ?_; rintro e w2 ⟨v', rfl, ho, hg⟩)
  all_goals
    go_ret
    exact ⟨_, _, rfl, ho, ⟨0, [], Trace.start _ _, Nat.le_refl _, rfl⟩, hb1.trans (Own.gb (Own.nil _ _) hg hb1.size)⟩

set_option maxRecDepth 20000 in
set_option maxHeartbeats 2000000 in
theorem pack_some (b off c : Nat) (zs : List Int) (w : World) (hd : DatAt w b off zs) (hby : Byt zs) (hc : zs.length ≤ c) (hn : zs.length ≤ 1048576) (h0 : 0 < zs.length) :
    Calls Tryd.prog 18 #[.slice (some ⟨b, off, none⟩) zs.length c] w fun e w' => ∃ v' res, e = .returned v' ∧ Own w' w.heap.size v' res ∧ PackRes zs res ∧ Below w.heap.size w w' := by
  have hb : b < w.heap.size := World.block_lt_of_cell? w _ (hd 0 h0)
  obtain ⟨m, hm⟩ : ∃ m, m = min zs.length 65536 := ⟨_, rfl⟩
  have HM := hide hm
  have HD := hide hd
  have HBY := hide hby
  have hnew := fun w => new_any (some ⟨b, off, none⟩) zs.length c m w (by omega) (by omega)
  have HNEW := hide hnew
  clear hm hd hby hnew
  go_enter Tryd.func18, Tryd.ntmps18
  go_wp2_with (go_at_call 25; refine (HNEW.out _).mono ?_; rintro e w1 ⟨F, M, K, rfl, hF, hM, hK, hfin, hmp, hbk, hb1⟩)
  go_loopw [4, 5, 6] (fun v4 v5 v6 wr => ∃ (p pl : Nat) (out : List Int), v5 = .int .i64 pl ∧ v6 = .int .i64 p ∧ pl ≤ p ∧ p ≤ zs.length ∧ out.length ≤ 2 * pl ∧ Own wr w.heap.size v4 out ∧
      FinSt wr F M (.slice (some ⟨b, off, none⟩) zs.length c) (.slice (some ⟨K, 0, none⟩) m m) zs (min p (zs.length - 3)) ∧ BkAt wr K (bkN zs m (min p (zs.length - 3))) ∧ Below w.heap.size w wr ∧ Hid (Trace zs m p pl out)) (fun _ _ v6 _ => zs.length - (intOf v6).toNat)
  case atStart => exact ⟨0, 0, [], rfl, rfl, Nat.le_refl _, Nat.zero_le _, Nat.zero_le _, Own.nil _ _, by rw [Nat.zero_min]; exact ⟨hfin, _, hmp, MapIs.start zs⟩, by rw [Nat.zero_min]; exact hbk, hb1, Trace.start _ _⟩
  case round =>
    clear hfin hbk hb1 hmp
    obtain ⟨p, pl, out, rfl, rfl, hpl, hp, hol, hown, hfin, hbk, hbel, HT⟩ := hrel
    have hsz := hbel.size
    have hdr := HD.out.below hbel hb
    by_cases hlt : p < zs.length
    · have hlg := longest_at F M K b off c p zs wr m HM.out hfin hbk hdr HBY.out (by omega) hc hlt
      have HLG := hide hlg
      have HFI := hide hfin
      have HBK := hide hbk
      have HBE := hide hbel
      have HOW := hide hown
      clear hlg hfin hbk hbel hown hdr
      go_wp2_with fail
      refine HLG.out.mono ?_
      rintro e w2 ⟨dist, count, rfl, hl, hb2⟩
      have hfi2 := HFI.out.below hb2
      have hbk2 := HBK.out.below hb2 HBK.out.lt
      have hbe2 : Below w.heap.size w w2 := HBE.out.trans (hb2.mono hsz)
      have how2 : Own w2 w.heap.size _ out := HOW.out.below hb2
      have hsz2 := hbe2.size
      have HFI2 := hide hfi2
      have HBK2 := hide hbk2
      have HBE2 := hide hbe2
      have HOW2 := hide how2
      clear hb2 hfi2 hbk2 hbe2 how2
      have hcl := hl.count_le
      by_cases hc4 : count < 4
      · have hci : (count : Int) < 4 := by omega
        have hnt := note_at F M K b off c p (p + 1) ((p : Int) + 1) (by omega) zs w2 m HM.out HFI2.out HBK2.out (HD.out.below HBE2.out hb) HBY.out (by omega) hc hlt (by omega) (by omega) (by omega) (by omega)
        have HNT := hide hnt
        have HL := hide hl
        clear hnt hl
        go_wp2_with (go_at_call 27; refine HNT.out.mono ?_; rintro e w3 ⟨rfl, ho3, hf3, hk3⟩)
        go_roundw
        case rel => exact ⟨p + 1, pl, out, rfl, by go_num, by omega, by omega, hol, Own.only2 (w := w2) HOW2.out HFI2.out HBK2.out ho3, hf3, hk3, HBE2.out.trans (ho3.below hM hK hsz2), Trace.plain HT.out hpl hlt HL.out hc4⟩
        case measure => simp [intOf]; omega
      · have hci : ¬ (count : Int) < 4 := by omega
        obtain ⟨g1, g2, g3, g4, g5⟩ := hl.good (by omega)
        have HL := hide hl
        have hcp : ¬ c = pl := by omega
        clear hl g5
        have hpi : (pl : Int) ≤ (p : Int) := by omega
        have hpc : (p : Int) ≤ (c : Int) := by omega
        have hmid := slb_mid (w := w2) (base := w.heap.size) (pl := pl) (p := p) (HD.out.below HBE2.out hb) hb (by omega) hc hpl
        have hlm : p - pl = ((zs.drop pl).take (p - pl)).length := by simp; omega
        have HMID := hide hmid
        have HLM := hide hlm
        clear hmid hlm
        go_wp2_with fail
        refine (putPlain_n w.heap.size (some ⟨b, off + pl, none⟩) (c - pl) (p - pl) _ out ((zs.drop pl).take (p - pl)) w2 HLM.out hsz2 HOW2.out HMID.out (by rw [← HLM.out]; omega)).mono ?_
        rintro e w3 ⟨v3, rfl, ho3, hg3⟩
        have hf3 := FinSt.gb (w := w2) HFI2.out HOW2.out hg3
        have hk3 := BkAt.gb (w := w2) HBK2.out HOW2.out hg3
        have hb3 : Below w.heap.size w w3 := HBE2.out.trans (Own.gb (w := w2) HOW2.out hg3 hsz2)
        have hsz3 := hb3.size
        have hl3 : (out ++ pln ((zs.drop pl).take (p - pl))).length ≤ 2 * p := by
          have := pln_len2 _ ((zs.drop pl).take (p - pl)) (Nat.le_refl _)
          rw [← HLM.out] at this
          rw [List.length_append]; omega
        have hput := putCopy_any w.heap.size dist count v3 _ w3 hsz3 ho3 (by omega) (by omega) (by omega)
        have HPUT := hide hput
        have HF3 := hide hf3
        have HK3 := hide hk3
        have HB3 := hide hb3
        have HO3 := hide ho3
        have HLN := hide hl3
        clear hput hf3 hk3 hb3 ho3 hg3 hl3
        go_wp2_with fail
        refine HPUT.out.mono ?_
        rintro e w4 ⟨v4, rfl, ho4, hg4⟩
        have hf4 := FinSt.gb HF3.out HO3.out hg4
        have hk4 := BkAt.gb HK3.out HO3.out hg4
        have hb4 : Below w.heap.size w w4 := HB3.out.trans (Own.gb HO3.out hg4 hsz3)
        have hnt := note_at F M K b off c p (p + count) ((p : Int) + (count : Int)) (by omega) zs w4 m HM.out hf4 hk4 (HD.out.below hb4 hb) HBY.out (by omega) hc hlt (by omega) (by omega) (by omega) (by omega)
        have HNT := hide hnt
        have HF4 := hide hf4
        have HK4 := hide hk4
        have HB4 := hide hb4
        have HO4 := hide ho4
        clear hnt hf4 hk4 hb4 ho4 hg4
        go_wp2_with (go_at_call 27; refine HNT.out.mono ?_; rintro e w5 ⟨rfl, ho5, hf5, hk5⟩)
        go_roundw
        case rel =>
          refine ⟨p + count, p + count, out ++ pln ((zs.drop pl).take (p - pl)) ++ enc3 dist count, by go_num, by go_num, Nat.le_refl _, by omega, ?_, Own.only2 HO4.out HF4.out HK4.out ho5, hf5, hk5, HB4.out.trans (ho5.below hM hK HB4.out.size), Trace.copy HT.out hpl hlt HL.out (by omega)⟩
          have := HLN.out
          rw [List.length_append]
          simp only [enc3, List.length_cons, List.length_nil]
          omega
        case measure => simp [intOf]; omega
    · obtain rfl : p = zs.length := by omega
      by_cases hcp : c = pl
      · have hz : zs.drop pl = [] := List.drop_eq_nil_of_le (by omega)
        have hlp : zs.length - pl = 0 := by omega
        have HZ := hide hz
        clear hz
        have hputp := fun (ao : Option Addr) (c' n : Nat) (hn : n = 0) => putPlain_n w.heap.size ao c' n _ out [] wr hn hsz hown ⟨Nat.zero_le _, fun h => absurd rfl h⟩ (by simp; omega)
        have HPP := hide hputp
        clear hputp hfin hbk hdr
        go_wp2_with (go_at_call 28; refine (HPP.out _ _ _ (by omega)).mono ?_; rintro e w2 ⟨v', rfl, ho, hg⟩)
        go_ret
        refine ⟨_, _, rfl, ho, ⟨pl, out, by rw [← HM.out]; exact HT.out, hpl, by rw [HZ.out]⟩, hbel.trans (Own.gb hown hg hsz)⟩
      · have hmid : SlB wr w.heap.size (some ⟨b, off + pl, none⟩) (c - pl) (zs.drop pl) := SlB.cut hb hc hdr (fun _ => rfl)
        have hputp := putPlain_n w.heap.size (some ⟨b, off + pl, none⟩) (c - pl) (zs.length - pl) _ out (zs.drop pl) wr (by simp) hsz hown hmid (by rw [List.length_drop]; omega)
        have HPP := hide hputp
        clear hputp hfin hbk hdr hmid
        go_wp2_with (go_at_call 28; refine HPP.out.mono ?_; rintro e w2 ⟨v', rfl, ho, hg⟩)
        go_ret
        refine ⟨_, _, rfl, ho, ⟨pl, out, by rw [← HM.out]; exact HT.out, hpl, rfl⟩, hbel.trans (Own.gb hown hg hsz)⟩

/-- packing.Pack, whatever is packed. -/
theorem pack_any (ao : Option Addr) (c : Nat) (zs : List Int) (w : World) (hs : Sl w ao c zs) (hby : Byt zs) (hn : zs.length ≤ 1048576) :
    Calls Tryd.prog 18 #[.slice ao zs.length c] w fun e w' => ∃ v' res, e = .returned v' ∧ Own w' w.heap.size v' res ∧ PackRes zs res ∧ Below w.heap.size w w' := by
  by_cases h0 : zs = []
  · subst h0
    exact pack_nil ao c w
  · obtain ⟨b, off, rfl, hc⟩ := hs.2 h0
    exact pack_some b off c zs w hc hby hs.1 hn (List.length_pos_iff.2 h0)

/-- segments.Pack. -/
theorem pack_seg (ao : Option Addr) (c : Nat) (zs : List Int) (w : World) (hs : Sl w ao c zs) (hby : Byt zs) (hn : zs.length ≤ 1048576) :
    Calls Tryd.prog 14 #[.slice ao zs.length c] w fun e w' => ∃ v' res, e = .returned v' ∧ Own w' w.heap.size v' res ∧ PackRes zs res ∧ Below w.heap.size w w' := by
  go_enter Tryd.func14, Tryd.ntmps14
  go_wp2_with (go_at_call 18; refine (pack_any ao c zs _ hs hby hn).mono ?_; rintro e w' ⟨v', res, rfl, ho, hr, hb⟩)
  go_ret
  exact ⟨_, _, rfl, ho, hr, hb⟩
end Go.Proofs.YtjafmnpobalepaaDoor
