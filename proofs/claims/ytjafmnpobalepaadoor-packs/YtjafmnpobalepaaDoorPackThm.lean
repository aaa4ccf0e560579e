/-
  What is packed comes out again, and is not much longer: plain mathematics.
-/
import Derived.Test.YtjafmnpobalepaaDoorPack
namespace Go.Proofs.YtjafmnpobalepaaDoor

theorem unp_pln (most : Int) : ∀ (n : Nat) (ms out rest : List Int), ms.length ≤ n → (out.length : Int) + ms.length ≤ most → unp most (pln ms ++ rest) out = unp most rest (out ++ ms) := by
  intro n
  induction n with
  | zero =>
    intro ms out rest h _
    obtain rfl : ms = [] := List.eq_nil_of_length_eq_zero (by omega)
    simp [pln_nil]
  | succ n ih =>
    intro ms out rest h hm
    by_cases h0 : ms = []
    · subst h0; simp [pln_nil]
    · have h1 : 0 < ms.length := List.length_pos_iff.2 h0
      rw [pln_cons h0]
      generalize hc : min ms.length 128 = c
      have hc1 : 1 ≤ c := by omega
      have hc2 : c ≤ 128 := by omega
      have hc3 : c ≤ ms.length := by omega
      have hlt : (ms.take c).length = c := by rw [List.length_take]; omega
      rw [List.cons_append, List.append_assoc]
      rw [unp_p3 _ _ _ _ (by omega) (by simp only [List.length_append, hlt]; omega) (by omega)]
      have e : ((c : Int) - 1 + 1).toNat = c := by omega
      rw [e]
      have e1 : (ms.take c ++ (pln (ms.drop c) ++ rest)).drop c = pln (ms.drop c) ++ rest := by
        rw [List.drop_append_of_le_length (by omega), List.drop_of_length_le (by omega), List.nil_append]
      have e2 : (ms.take c ++ (pln (ms.drop c) ++ rest)).take c = ms.take c := by
        rw [List.take_append_of_le_length (by omega), List.take_of_length_le (by omega)]
      rw [e1, e2, ih (ms.drop c) _ rest (by rw [List.length_drop]; omega) (by rw [List.length_append, hlt, List.length_drop]; omega)]
      rw [List.append_assoc, List.take_append_drop]

theorem unp_enc (most : Int) (d count : Nat) (out rest : List Int) (hd : 1 ≤ d) (hd1 : d ≤ 65535) (hd2 : d ≤ out.length) (hc : 4 ≤ count) (hc1 : count ≤ 130) (hm : (out.length : Int) + count ≤ most) :
    unp most (enc3 d count ++ rest) out = unp most rest (cpy d count out) := by
  have hr : (enc3 d count ++ rest) = ((count : Int) + 125) :: ((d : Int) / 256 :: (d : Int) % 256 :: rest) := rfl
  rw [hr]
  have e0 : ((d : Int) / 256 :: (d : Int) % 256 :: rest).getD 0 0 * 256 + ((d : Int) / 256 :: (d : Int) % 256 :: rest).getD 1 0 = (d : Int) := by
    simp only [List.getD_cons_zero, List.getD_cons_succ]; omega
  rw [unp_c4 _ _ _ _ (by omega) (by simp) (by rw [e0]; omega) (by omega), e0]
  have e1 : ((count : Int) + 125 - 125).toNat = count := by omega
  rw [e1]
  simp

theorem getD_take {zs : List Int} {i k : Nat} (h : i < k) : (zs.take k).getD i 0 = zs.getD i 0 := by
  simp [List.getD_eq_getElem?_getD, h]
theorem take_one {zs : List Int} {k : Nat} (h : k < zs.length) : zs.take (k + 1) = zs.take k ++ [zs.getD k 0] := by
  rw [List.take_succ_eq_append_getElem h]; simp [List.getD_eq_getElem?_getD, h]

theorem cpy_take (zs : List Int) (p d : Nat) (hd : 1 ≤ d) (hdp : d ≤ p) : ∀ count, p + count ≤ zs.length → (∀ i, i < count → zs.getD (p + i) 0 = zs.getD (p - d + i) 0) → cpy d count (zs.take p) = zs.take (p + count) := by
  intro count
  induction count with
  | zero => intro _ _; rfl
  | succ k ih =>
    intro hl he
    rw [cpy_succ, ih (by omega) (fun i hi => he i (by omega))]
    have hlen : (zs.take (p + k)).length = p + k := by rw [List.length_take]; omega
    rw [hlen, getD_take (by omega), show p + k - d = p - d + k from by omega, ← he k (by omega), ← take_one (by omega)]
    rfl

theorem enc3_byt {d count : Nat} (hd : d ≤ 65535) (hc : count ≤ 130) : Byt (enc3 d count) := by
  intro z hz
  simp only [enc3, List.mem_cons, List.not_mem_nil, or_false] at hz
  rcases hz with rfl | rfl | rfl <;> omega
theorem pln_byt : ∀ (n : Nat) (ms : List Int), ms.length ≤ n → Byt ms → Byt (pln ms) := by
  intro n
  induction n with
  | zero =>
    intro ms h _
    obtain rfl : ms = [] := List.eq_nil_of_length_eq_zero (by omega)
    exact Byt.nil
  | succ n ih =>
    intro ms h hb
    by_cases h0 : ms = []
    · subst h0; exact Byt.nil
    · have h1 : 0 < ms.length := List.length_pos_iff.2 h0
      rw [pln_cons h0]
      intro z hz
      rcases List.mem_cons.1 hz with rfl | hz
      · omega
      · rcases List.mem_append.1 hz with hz | hz
        · exact hb z (List.mem_of_mem_take hz)
        · exact ih _ (by rw [List.length_drop]; omega) (hb.drop _) z hz

/-- What holds all along: the bytes that stand in steps come out again, and there are not many more of them. -/
theorem Trace.inv {zs : List Int} {m p pl : Nat} {out : List Int} (h : Trace zs m p pl out) (hb : Byt zs) :
    pl ≤ p ∧ p ≤ zs.length ∧ Byt out ∧ out.length ≤ pl + pl / 128 ∧ ∀ rest, unp zs.length (out ++ rest) [] = unp zs.length rest (zs.take pl) := by
  refine h (fun p pl out => pl ≤ p ∧ p ≤ zs.length ∧ Byt out ∧ out.length ≤ pl + pl / 128 ∧ ∀ rest, unp zs.length (out ++ rest) [] = unp zs.length rest (zs.take pl)) ?_ ?_ ?_
  · exact ⟨Nat.le_refl _, Nat.zero_le _, Byt.nil, Nat.le_refl _, fun rest => rfl⟩
  · rintro p pl out dist count ⟨a, b, c, d, e⟩ h1 h2 h3 h4
    exact ⟨by omega, by omega, c, d, e⟩
  · rintro p pl out dist count ⟨a, b, c, d, e⟩ h1 h2 h3 h4
    obtain ⟨g1, g2, g3, g4, g5⟩ := h3.good h4
    have hc := h3.count_le
    have hml : ((zs.drop pl).take (p - pl)).length = p - pl := by rw [List.length_take, List.length_drop]; omega
    have hpl := pln_len _ ((zs.drop pl).take (p - pl)) (Nat.le_refl _)
    rw [hml] at hpl
    refine ⟨Nat.le_refl _, g4, (c.app (pln_byt _ _ (Nat.le_refl _) ((hb.drop _).take _))).app (enc3_byt g3 hc.2), ?_, fun rest => ?_⟩
    · rw [List.length_append, List.length_append, hpl]
      simp only [enc3, List.length_cons, List.length_nil]
      omega
    · have htl : (zs.take pl).length = pl := by rw [List.length_take]; omega
      have htp : zs.take pl ++ (zs.drop pl).take (p - pl) = zs.take p := by
        rw [show (zs.drop pl).take (p - pl) = (zs.take p).drop pl from by rw [List.drop_take]]
        have : zs.take pl = (zs.take p).take pl := by rw [List.take_take, Nat.min_eq_left a]
        rw [this, List.take_append_drop]
      rw [List.append_assoc, List.append_assoc, e, unp_pln _ _ _ _ _ (Nat.le_refl _) (by rw [htl, hml]; omega), htp, unp_enc _ _ _ _ _ g1 g3 (by rw [List.length_take]; omega) h4 hc.2 (by rw [List.length_take]; omega)]
      rw [cpy_take zs p dist g1 g2 count g4 g5]

/-- What Pack answers: it is unpacked again, and is not much longer. -/
theorem PackRes.right {zs res : List Int} (h : PackRes zs res) (hb : Byt zs) : Byt res ∧ res.length ≤ zs.length + zs.length / 128 + 1 ∧ unp zs.length res [] = .inr zs := by
  obtain ⟨pl, out, ht, hpl, rfl⟩ := h
  obtain ⟨a, _, c, d, e⟩ := ht.inv hb
  have hlen := pln_len _ (zs.drop pl) (Nat.le_refl _)
  rw [List.length_drop] at hlen
  refine ⟨c.app (pln_byt _ _ (Nat.le_refl _) (hb.drop _)), ?_, ?_⟩
  · rw [List.length_append, hlen]; omega
  · rw [e]
    have := unp_pln zs.length _ (zs.drop pl) (zs.take pl) [] (Nat.le_refl _) (by rw [List.length_take, List.length_drop]; omega)
    rw [List.append_nil] at this
    rw [this, List.take_append_drop, unp_nil]
end Go.Proofs.YtjafmnpobalepaaDoor
