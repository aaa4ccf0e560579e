/-
  packing.Pack, segments.Pack: walks; what a packing is made of.
-/
import Derived.Test.YtjafmnpobalepaaDoorNote
import Derived.Test.YtjafmnpobalepaaDoorPut2
namespace Go.Proofs.YtjafmnpobalepaaDoor
open Go.RowKit

/-- What longest finds at a place, when all places ahead of it are noted. -/
def LngAt (zs : List Int) (m p dist count : Nat) : Prop :=
  (p + 4 ≤ zs.length ∧ Lng zs (bkN zs m p) p (rch p (mrk zs p p)) (min (zs.length - p) 130) dist count) ∨ (zs.length < p + 4 ∧ dist = 0 ∧ count = 0)

theorem LngAt.count_le {zs : List Int} {m p dist count : Nat} (h : LngAt zs m p dist count) : count ≤ zs.length - p ∧ count ≤ 130 := by
  rcases h with ⟨_, hg, _⟩ | ⟨_, _, rfl⟩
  · rcases hg with rfl | ⟨_, _, _, h, _⟩ <;> omega
  · omega
theorem LngAt.good {zs : List Int} {m p dist count : Nat} (h : LngAt zs m p dist count) (h4 : 4 ≤ count) : 1 ≤ dist ∧ dist ≤ p ∧ dist ≤ 65535 ∧ p + count ≤ zs.length ∧ ∀ i, i < count → zs.getD (p + i) 0 = zs.getD (p - dist + i) 0 := by
  have hc := h.count_le
  rcases h with ⟨_, hg, _⟩ | ⟨_, _, rfl⟩
  · rcases hg with rfl | ⟨h1, h2, h3, h5, h6⟩
    · omega
    · exact ⟨h1, h2, h3, by omega, h6⟩
  · omega

/-- How a packing comes about: where it stands, from where on bytes stand in no step yet, and the steps so far. -/
def Trace (zs : List Int) (m p pl : Nat) (out : List Int) : Prop :=
  ∀ R : Nat → Nat → List Int → Prop, R 0 0 [] →
    (∀ p pl out dist count, R p pl out → pl ≤ p → p < zs.length → LngAt zs m p dist count → count < 4 → R (p + 1) pl out) →
    (∀ p pl out dist count, R p pl out → pl ≤ p → p < zs.length → LngAt zs m p dist count → 4 ≤ count → R (p + count) (p + count) (out ++ pln ((zs.drop pl).take (p - pl)) ++ enc3 dist count)) → R p pl out

theorem Trace.start (zs : List Int) (m : Nat) : Trace zs m 0 0 [] := fun _ h _ _ => h
theorem Trace.plain {zs : List Int} {m p pl : Nat} {out : List Int} (h : Trace zs m p pl out) (h1 : pl ≤ p) (h2 : p < zs.length) {dist count : Nat} (h3 : LngAt zs m p dist count) (h4 : count < 4) : Trace zs m (p + 1) pl out :=
  fun R a b c => b p pl out dist count (h R a b c) h1 h2 h3 h4
theorem Trace.copy {zs : List Int} {m p pl : Nat} {out : List Int} (h : Trace zs m p pl out) (h1 : pl ≤ p) (h2 : p < zs.length) {dist count : Nat} (h3 : LngAt zs m p dist count) (h4 : 4 ≤ count) :
    Trace zs m (p + count) (p + count) (out ++ pln ((zs.drop pl).take (p - pl)) ++ enc3 dist count) :=
  fun R a b c => c p pl out dist count (h R a b c) h1 h2 h3 h4

/-- What Pack answers. -/
def PackRes (zs res : List Int) : Prop := ∃ pl out, Trace zs (min zs.length 65536) zs.length pl out ∧ pl ≤ zs.length ∧ res = out ++ pln (zs.drop pl)

theorem longest_at (F M K b off c p : Nat) (zs : List Int) (w : World) (m : Nat) (hm : m = min zs.length 65536) (hf : FinSt w F M (.slice (some ⟨b, off, none⟩) zs.length c) (.slice (some ⟨K, 0, none⟩) m m) zs (min p (zs.length - 3)))
    (hk : BkAt w K (bkN zs m (min p (zs.length - 3)))) (hd : DatAt w b off zs) (hby : Byt zs) (hn : zs.length ≤ 4194304) (hc : zs.length ≤ c) (hp : p < zs.length) :
    Calls Tryd.prog 26 #[.pointer (some ⟨F, 0, none⟩), .int .i64 p] w fun e w' => ∃ dist count : Nat, e = .returned (.tuple #[.int .i64 dist, .int .i64 count]) ∧ LngAt zs m p dist count ∧ Below w.heap.size w w' := by
  obtain ⟨hf, D, hmo, hMD⟩ := hf
  by_cases h4 : p + 4 ≤ zs.length
  · rw [show min p (zs.length - 3) = p from by omega] at hmo hMD hk
    have hl := bk_len zs m p
    have hch : ∀ q, q < p → p - q ≤ 65535 → (bkN zs m p).getD (q % 65536) 0 ≤ q := fun q h1 h2 => bk_chain zs m p q h1 (by omega) (by omega)
    have hf' := hf
    rw [← hl] at hf'
    by_cases h130 : p + 130 < zs.length
    · refine (longest_far F M K b off c p p zs (bkN zs m p) D w (by rw [hl] at hf' ⊢; exact hf) hmo hMD hk hd hby hn hc h4 h130 (by rw [hl]; exact hm) hch (bk_u16 zs m p)).mono ?_
      rintro e w' ⟨dist, count, rfl, hg, hb⟩
      exact ⟨dist, count, rfl, Or.inl ⟨h4, by rw [show min (zs.length - p) 130 = 130 from by omega]; exact hg⟩, hb⟩
    · refine (longest_near F M K b off c p p (zs.length - p) zs (bkN zs m p) D w (by rw [hl]; exact hf) hmo hMD hk hd hby hn hc h4 (by omega) (by omega) (by rw [hl]; exact hm) hch (bk_u16 zs m p)).mono ?_
      rintro e w' ⟨dist, count, rfl, hg, hb⟩
      exact ⟨dist, count, rfl, Or.inl ⟨h4, by rw [show min (zs.length - p) 130 = zs.length - p from by omega]; exact hg⟩, hb⟩
  · refine (longest_short F M (some ⟨b, off, none⟩) zs.length c p _ w hf hn (by omega) (by omega)).mono ?_
    rintro e w' ⟨rfl, hb⟩
    exact ⟨0, 0, rfl, Or.inr ⟨by omega, rfl, rfl⟩, hb⟩

theorem note_at (F M K b off c p to : Nat) (tI : Int) (htI : tI = (to : Int)) (zs : List Int) (w : World) (m : Nat) (hm : m = min zs.length 65536) (hf : FinSt w F M (.slice (some ⟨b, off, none⟩) zs.length c) (.slice (some ⟨K, 0, none⟩) m m) zs (min p (zs.length - 3)))
    (hk : BkAt w K (bkN zs m (min p (zs.length - 3)))) (hd : DatAt w b off zs) (hby : Byt zs) (hn : zs.length ≤ 4194304) (hc : zs.length ≤ c) (hp : p < zs.length) (hpt : p ≤ to) (hto : to ≤ 8388608) (hbM : b ≠ M) (hbK : b ≠ K) :
    Calls Tryd.prog 27 #[.pointer (some ⟨F, 0, none⟩), .int .i64 p, .int .i64 tI] w fun e w' => e = .returned (.tuple #[]) ∧ Only2 M K w w' ∧
      FinSt w' F M (.slice (some ⟨b, off, none⟩) zs.length c) (.slice (some ⟨K, 0, none⟩) m m) zs (min to (zs.length - 3)) ∧ BkAt w' K (bkN zs m (min to (zs.length - 3))) := by
  subst htI
  by_cases h4 : p + 4 ≤ zs.length
  · rw [show min p (zs.length - 3) = p from by omega] at hf hk
    exact note_yes F M K b off c p to m zs w hf hk hd hby hn hc hm h4 hpt hto hbM hbK
  · obtain ⟨hf, D, hmo, hMD⟩ := hf
    refine (note_no F M (some ⟨b, off, none⟩) zs.length c p to _ w hf hn (by omega) (by omega) hto).mono ?_
    rintro e w' ⟨rfl, hb⟩
    rw [show min to (zs.length - 3) = min p (zs.length - 3) from by omega]
    exact ⟨rfl, (Only2.refl _ _ _).more hb, ⟨hf.below hb hf.lt, D, hmo.below hb hmo.lt, hMD⟩, hk.below hb hk.lt⟩

theorem Own.notMap {w : World} {base : Nat} {v : Value} {out : List Int} (ho : Own w base v out) {M n : Nat} {D : DataW Unit} (hm : MpOwn w M n D) : v.ownBlock ≠ some M := by
  intro e
  unfold Own at ho
  rcases ho.2 with ⟨rfl, _⟩ | ⟨g, cap, cur, rfl, _, hg, _⟩
  · simp [Value.ownBlock] at e
  · simp [Value.ownBlock] at e
    exact hm.notRow hg e
theorem FinSt.gb {w w' : World} {F M base k : Nat} {dv bv v : Value} {zs out : List Int} (h : FinSt w F M dv bv zs k) (ho : Own w base v out) (hg : w.grownBy w' v.ownBlock) : FinSt w' F M dv bv zs k := by
  obtain ⟨hf, D, hmo, hMD⟩ := h
  exact ⟨grown_block hg hf (ho.other (by decide) hf), D, hmo.kept hg (fun e => ho.notMap hmo e.symm), hMD⟩
theorem FinSt.below {w w' : World} {F M k : Nat} {dv bv : Value} {zs : List Int} (h : FinSt w F M dv bv zs k) (hb : Below w.heap.size w w') : FinSt w' F M dv bv zs k := by
  obtain ⟨hf, D, hmo, hMD⟩ := h
  exact ⟨hf.below hb hf.lt, D, hmo.below hb hmo.lt, hMD⟩
theorem BkAt.gb {w w' : World} {K base : Nat} {v : Value} {bs : List Nat} {out : List Int} (h : BkAt w K bs) (ho : Own w base v out) (hg : w.grownBy w' v.ownBlock) : BkAt w' K bs :=
  grown_block hg h (ho.other (by decide) h)
theorem Own.only2 {w w' : World} {F M K base k : Nat} {dv bv v : Value} {bs : List Nat} {zs out : List Int} (ho : Own w base v out) (h : FinSt w F M dv bv zs k) (g : BkAt w K bs) (h2 : Only2 M K w w') : Own w' base v out := by
  obtain ⟨_, D, hmo, _⟩ := h
  have n1 := ho.notMap hmo
  have n2 := ho.other (by decide) g
  unfold Own at ho ⊢
  refine ⟨ho.1, ?_⟩
  rcases ho.2 with h' | ⟨b, cap, cur, rfl, hb, hg, rest⟩
  · exact Or.inl h'
  · refine Or.inr ⟨b, cap, cur, rfl, hb, ?_, rest⟩
    simp only [Value.ownBlock] at n1 n2
    rw [h2.block b (Array.getElem?_eq_some_iff.1 hg).1 (fun e => n1 (by rw [e])) (fun e => n2 (by rw [e]))]
    exact hg

theorem putPlain_n (base : Nat) (ao : Option Addr) (c n : Nat) (v : Value) (out ms0 : List Int) (w : World) (hn : n = ms0.length) (hbase : base ≤ w.heap.size) (hown : Own w base v out) (hsl : SlB w base ao c ms0) (hlen : out.length + 2 * ms0.length ≤ 33554432) :
    Calls Tryd.prog 28 #[v, .slice ao n c] w fun e w' => ∃ v', e = .returned v' ∧ Own w' base v' (out ++ pln ms0) ∧ w.grownBy w' v.ownBlock := by
  subst hn; exact putPlain_any base ao c v out ms0 w hbase hown hsl hlen

/-- A slice of the bytes. -/
theorem slb_mid {w : World} {base b off c pl p : Nat} {zs : List Int} (hd : DatAt w b off zs) (hb : b < base) (hp : p ≤ zs.length) (hc : zs.length ≤ c) (hpl : pl ≤ p) : SlB w base (some ⟨b, off + pl, none⟩) (c - pl) ((zs.drop pl).take (p - pl)) := by
  refine ⟨by simp; omega, fun _ => ⟨b, off + pl, rfl, hb, fun i hi => ?_⟩⟩
  have hi' : i < p - pl := by simp at hi; omega
  rw [Nat.add_assoc, hd (pl + i) (by omega)]
  simp [List.getD_eq_getElem?_getD, hi']
end Go.Proofs.YtjafmnpobalepaaDoor
