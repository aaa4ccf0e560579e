/-
  packing.Pack, segments.Pack: walks; what a packing is made of.
-/
import Derived.Test.YtmogoephpefenaaDoorNote
import Derived.Test.YtmogoephpefenaaDoorPut2
namespace Go.Proofs.YtmogoephpefenaaDoor
open Go.RowKit

/-- What longest finds at a place, when all places ahead of it are noted. -/
def LngAt (zs : List Int) (m p dist count : Nat) : Prop :=
  (p + 4 ≤ zs.length ∧ Lng zs (stN zs m p).2 p (rch p ((stN zs m p).1.getD (hsh zs p) 0)) (min (zs.length - p) 130) dist count) ∨ (zs.length < p + 4 ∧ dist = 0 ∧ count = 0)

theorem LngAt.count_le {zs : List Int} {m p dist count : Nat} (h : LngAt zs m p dist count) : count ≤ zs.length - p ∧ count ≤ 130 := by
  rcases h with ⟨_, hg, _⟩ | ⟨_, _, rfl⟩
  · rcases hg with rfl | ⟨_, _, _, h, _⟩ <;> omega
  · omega
theorem LngAt.good {zs : List Int} {m p dist count : Nat} (h : LngAt zs m p dist count) (h4 : 4 ≤ count) : 1 ≤ dist ∧ dist ≤ p ∧ dist ≤ 65535 ∧ p + count ≤ zs.length ∧ ∀ i, i < count → zs.getD (p + i) 0 = zs.getD (p - dist + i) 0 := by
  have hc := h.count_le
  rcases h with ⟨_, hg, _⟩ | ⟨_, _, rfl⟩
  · rcases hg with rfl | ⟨h1, h2, h3, h5, h6⟩
    · omega
    · exact ⟨h1, h2, h3, by omega, h6⟩
  · omega

/-- How a packing comes about: where it stands, from where on bytes stand in no step yet, and the steps so far. -/
def Trace (zs : List Int) (m p pl : Nat) (out : List Int) : Prop :=
  ∀ R : Nat → Nat → List Int → Prop, R 0 0 [] →
    (∀ p pl out dist count, R p pl out → pl ≤ p → p < zs.length → LngAt zs m p dist count → count < 4 → R (p + 1) pl out) →
    (∀ p pl out dist count, R p pl out → pl ≤ p → p < zs.length → LngAt zs m p dist count → 4 ≤ count → R (p + count) (p + count) (out ++ pln ((zs.drop pl).take (p - pl)) ++ enc3 dist count)) → R p pl out

theorem Trace.start (zs : List Int) (m : Nat) : Trace zs m 0 0 [] := fun _ h _ _ => h
theorem Trace.plain {zs : List Int} {m p pl : Nat} {out : List Int} (h : Trace zs m p pl out) (h1 : pl ≤ p) (h2 : p < zs.length) {dist count : Nat} (h3 : LngAt zs m p dist count) (h4 : count < 4) : Trace zs m (p + 1) pl out :=
  fun R a b c => b p pl out dist count (h R a b c) h1 h2 h3 h4
theorem Trace.copy {zs : List Int} {m p pl : Nat} {out : List Int} (h : Trace zs m p pl out) (h1 : pl ≤ p) (h2 : p < zs.length) {dist count : Nat} (h3 : LngAt zs m p dist count) (h4 : 4 ≤ count) :
    Trace zs m (p + count) (p + count) (out ++ pln ((zs.drop pl).take (p - pl)) ++ enc3 dist count) :=
  fun R a b c => c p pl out dist count (h R a b c) h1 h2 h3 h4

/-- What Pack answers. -/
def PackRes (zs res : List Int) : Prop := ∃ pl out, Trace zs (min zs.length 65536) zs.length pl out ∧ pl ≤ zs.length ∧ res = out ++ pln (zs.drop pl)

theorem longest_at (F K b off c p : Nat) (zs : List Int) (w : World) (m : Nat) (hm : m = min zs.length 65536) (hf : FinAt w F (.slice (some ⟨b, off, none⟩) zs.length c) (.slice (some ⟨K, 0, none⟩) m m) (stN zs m (min p (zs.length - 3))).1)
    (hk : BkAt w K (stN zs m (min p (zs.length - 3))).2) (hd : DatAt w b off zs) (hby : Byt zs) (hn : zs.length ≤ 4194304) (hc : zs.length ≤ c) (hp : p < zs.length) :
    Calls Tryd.prog 26 #[.pointer (some ⟨F, 0, none⟩), .int .i64 p] w fun e w' => ∃ dist count : Nat, e = .returned (.tuple #[.int .i64 dist, .int .i64 count]) ∧ LngAt zs m p dist count ∧ ∃ k, w' = w.drewN k := by
  by_cases h4 : p + 4 ≤ zs.length
  · rw [show min p (zs.length - 3) = p from by omega] at hf hk
    have hl := st_len zs m p
    have hlast := st_last zs m p (hsh zs p)
    have hch : ∀ q, q < p → p - q ≤ 65535 → (stN zs m p).2.getD (q % 65536) 0 ≤ q := fun q h1 h2 => st_chain zs m p q h1 (by omega) (by omega)
    have hf' := hf
    rw [← hl.2] at hf'
    by_cases h130 : p + 130 < zs.length
    · refine (longest_far F K b off c p zs (stN zs m p).1 (stN zs m p).2 w (by rw [hl.2] at hf' ⊢; exact hf) hk hd hby hn hc h4 h130 (by rw [hl.2]; exact hm) hlast hch (st_u16 zs m p)).mono ?_
      rintro e w' ⟨dist, count, rfl, hg, k, rfl⟩
      exact ⟨dist, count, rfl, Or.inl ⟨h4, by rw [show min (zs.length - p) 130 = 130 from by omega]; exact hg⟩, k, rfl⟩
    · refine (longest_near F K b off c p (zs.length - p) zs (stN zs m p).1 (stN zs m p).2 w (by rw [hl.2]; exact hf) hk hd hby hn hc h4 (by omega) (by omega) (by rw [hl.2]; exact hm) hlast hch (st_u16 zs m p)).mono ?_
      rintro e w' ⟨dist, count, rfl, hg, k, rfl⟩
      exact ⟨dist, count, rfl, Or.inl ⟨h4, by rw [show min (zs.length - p) 130 = zs.length - p from by omega]; exact hg⟩, k, rfl⟩
  · refine (longest_short F (some ⟨b, off, none⟩) zs.length c p _ _ w hf hn (by omega) (by omega)).mono ?_
    rintro e w' ⟨rfl, rfl⟩
    exact ⟨0, 0, rfl, Or.inr ⟨by omega, rfl, rfl⟩, 0, rfl⟩

theorem note_at (F K b off c p to : Nat) (tI : Int) (htI : tI = (to : Int)) (zs : List Int) (w : World) (m : Nat) (hm : m = min zs.length 65536) (hf : FinAt w F (.slice (some ⟨b, off, none⟩) zs.length c) (.slice (some ⟨K, 0, none⟩) m m) (stN zs m (min p (zs.length - 3))).1)
    (hk : BkAt w K (stN zs m (min p (zs.length - 3))).2) (hd : DatAt w b off zs) (hby : Byt zs) (hn : zs.length ≤ 4194304) (hc : zs.length ≤ c) (hp : p < zs.length) (hpt : p ≤ to) (hto : to ≤ 8388608) (hbF : b ≠ F) (hbK : b ≠ K) :
    Calls Tryd.prog 27 #[.pointer (some ⟨F, 0, none⟩), .int .i64 p, .int .i64 tI] w fun e w' => e = .returned (.tuple #[]) ∧ Only2 F K w w' ∧
      FinAt w' F (.slice (some ⟨b, off, none⟩) zs.length c) (.slice (some ⟨K, 0, none⟩) m m) (stN zs m (min to (zs.length - 3))).1 ∧ BkAt w' K (stN zs m (min to (zs.length - 3))).2 := by
  subst htI
  by_cases h4 : p + 4 ≤ zs.length
  · rw [show min p (zs.length - 3) = p from by omega] at hf hk
    exact note_yes F K b off c p to m zs w hf hk hd hby hn hc hm h4 hpt hto hbF hbK
  · refine (note_no F (some ⟨b, off, none⟩) zs.length c p to _ _ w hf hn (by omega) (by omega) hto).mono ?_
    rintro e w' ⟨rfl, rfl⟩
    rw [show min to (zs.length - 3) = min p (zs.length - 3) from by omega]
    exact ⟨rfl, Only2.refl _ _ _, hf, hk⟩

theorem FinAt.gb {w w' : World} {F base : Nat} {dv bv v : Value} {last : List Nat} {out : List Int} (h : FinAt w F dv bv last) (ho : Own w base v out) (hg : w.grownBy w' v.ownBlock) : FinAt w' F dv bv last :=
  ⟨h.1, grown_block hg h.2 (ho.other (by decide) h.2)⟩
theorem BkAt.gb {w w' : World} {K base : Nat} {v : Value} {bs : List Nat} {out : List Int} (h : BkAt w K bs) (ho : Own w base v out) (hg : w.grownBy w' v.ownBlock) : BkAt w' K bs :=
  grown_block hg h (ho.other (by decide) h)
theorem Own.only2 {w w' : World} {F K base : Nat} {dv bv v : Value} {last bs : List Nat} {out : List Int} (ho : Own w base v out) (h : FinAt w F dv bv last) (g : BkAt w K bs) (h2 : Only2 F K w w') : Own w' base v out := by
  have n1 := ho.other (by decide) h.2
  have n2 := ho.other (by decide) g
  unfold Own at ho ⊢
  refine ⟨ho.1, ?_⟩
  rcases ho.2 with h' | ⟨b, cap, cur, rfl, hb, hg, rest⟩
  · exact Or.inl h'
  · refine Or.inr ⟨b, cap, cur, rfl, hb, ?_, rest⟩
    simp only [Value.ownBlock] at n1 n2
    rw [h2.block b (fun e => n1 (by rw [e])) (fun e => n2 (by rw [e]))]
    exact hg

theorem putPlain_n (base : Nat) (ao : Option Addr) (c n : Nat) (v : Value) (out ms0 : List Int) (w : World) (hn : n = ms0.length) (hbase : base ≤ w.heap.size) (hown : Own w base v out) (hsl : SlB w base ao c ms0) (hlen : out.length + 2 * ms0.length ≤ 33554432) :
    Calls Tryd.prog 28 #[v, .slice ao n c] w fun e w' => ∃ v', e = .returned v' ∧ Own w' base v' (out ++ pln ms0) ∧ w.grownBy w' v.ownBlock := by
  subst hn; exact putPlain_any base ao c v out ms0 w hbase hown hsl hlen

theorem DatAt.below {w w' : World} {b off B : Nat} {zs : List Int} (h : DatAt w b off zs) (hb : Below B w w') (hlt : b < B) : DatAt w' b off zs := fun i hi => by
  rw [hb.cell (p := ⟨b, off + i, none⟩) hlt]; exact h i hi

/-- A slice of the bytes. -/
theorem slb_mid {w : World} {base b off c pl p : Nat} {zs : List Int} (hd : DatAt w b off zs) (hb : b < base) (hp : p ≤ zs.length) (hc : zs.length ≤ c) (hpl : pl ≤ p) : SlB w base (some ⟨b, off + pl, none⟩) (c - pl) ((zs.drop pl).take (p - pl)) := by
  refine ⟨by simp; omega, fun _ => ⟨b, off + pl, rfl, hb, fun i hi => ?_⟩⟩
  have hi' : i < p - pl := by simp at hi; omega
  rw [Nat.add_assoc, hd (pl + i) (by omega)]
  simp [List.getD_eq_getElem?_getD, hi']
end Go.Proofs.YtmogoephpefenaaDoor
