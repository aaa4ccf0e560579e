/-
  The law Packs: its walk.
-/
import Derived.Test.YtjafmnpobalepaaDoorClosed
import Derived.Test.YtjafmnpobalepaaDoorPackW
import Derived.Test.YtjafmnpobalepaaDoorPackThm
namespace Go.Proofs.YtjafmnpobalepaaDoor
open Go.RowKit

theorem Own.spoiltR {w w' : World} {base g : Nat} {v : Value} {out : List Int} (h : Own w base v out) (hg : w.grownBy w' (some g)) (hlt : g < base) : Own w' base v out := by
  refine World.ownsRow.kept h hg ?_
  cases hv : v.ownBlock with
  | none => exact Or.inl rfl
  | some k => exact Or.inr (fun e => by cases e; have := Own.blk h g hv; omega)
theorem Own.drewM {w : World} {base n : Nat} {v : Value} {out : List Int} (h : Own w base v out) : Own (w.drewN n) base v out := h
theorem Room.drewM {w : World} {g n : Nat} {zs : List Int} (h : Room w g zs) : Room (w.drewN n) g zs := h

theorem packs_big (ao : Option Addr) (n c : Nat) (w : World) (h : ¬ n ≤ 1048576) (hn : n ≤ maxLen) :
    Calls Tryd.prog 4 #[.slice ao n c] w fun e w' => e = .returned (.bool true) ∧ Below w.heap.size w w' := by
  unfold maxLen at hn
  have h' : (1048576 : Int) < (n : Int) := by omega
  go_enter Tryd.func4, Tryd.ntmps4
  go_wp2
  go_ret
  exact ⟨rfl, Below.refl _ _⟩

set_option maxRecDepth 20000 in
set_option maxHeartbeats 2000000 in
theorem packs_small (ao : Option Addr) (c : Nat) (zs : List Int) (w : World) (hs : Sl w ao c zs) (hby : Byt zs) (hlen : zs.length ≤ 1048576) :
    Calls Tryd.prog 4 #[.slice ao zs.length c] w fun e w' => e = .returned (.bool true) ∧ Below w.heap.size w w' := by
  have hd : ¬ (1048576 : Int) < (zs.length : Int) := by omega
  go_enter Tryd.func4, Tryd.ntmps4
  go_wp2_with fail
  refine (roomy_any ao c zs _ hs hlen).mono ?_
  rintro e w1 ⟨g, rfl, hg, hroom, hb1⟩
  have hs1 := hs.below hb1
  have hgs := hroom.lt
  have hz1 := hb1.size
  go_wp2_with fail
  refine (pack_seg (some ⟨g, 0, none⟩) (zs.length + 2) zs _ hroom.sl hby hlen).mono ?_
  rintro e w2 ⟨pv, res, rfl, ho, hr, hb2⟩
  obtain ⟨hrb, hrl, hru⟩ := hr.right hby
  have HRU := hide hru
  have hrli : (res.length : Int) ≤ (zs.length : Int) + (zs.length : Int) / 128 + 1 := by omega
  have hroom2 := hroom.below hb2
  have hs2 := hs1.below hb2
  have hz2 := hb2.size
  obtain ⟨a1, c1, rfl, hc1, hm1, s1, _⟩ := ho.shape
  clear hr hru s1
  go_wp2_with fail
  refine (still_any g ao c zs _ hroom2 hs2 hlen).mono ?_
  rintro e w3 ⟨rfl, m3, rfl⟩
  go_wp2_with fail
  refine (spoil_any g zs.length _ (zs ++ [71, 72]) (by omega) (by simp) hroom2.drewM).mono ?_
  rintro e w4 ⟨rfl, hg4⟩
  have hb4 : Below w.heap.size w w4 := (below_drewN (hb1.trans (hb2.mono hz1)) m3).grown hg4 (by simp; omega) (fun k hk => by cases hk; exact hg)
  have ho4 := (ho.drewM (n := m3)).spoiltR hg4 hgs
  have hz4 := hg4.size
  have hs4 := hs.below hb4
  obtain ⟨a4, c4, e4, _, _, s4, _⟩ := ho4.shape
  cases e4
  have hun := unpack_seg a1 c1 res zs.length _ s4 hrb (by omega) (by omega)
  rw [HRU.out] at hun
  have HUN := hide hun
  clear hun s4 ho4 ho hroom hroom2 hs1 hs2 hb1 hb2 hg4
  go_wp2_with fail
  refine HUN.out.mono ?_
  rintro e w5 ⟨dv, ev, rfl, hq, hb5⟩
  obtain ⟨hq, rfl⟩ := hq
  go_wp2_with fail
  refine (tell_nil _).mono ?_
  rintro e w6 ⟨rfl, hb6⟩
  have hq6 := hq.below hb6
  obtain ⟨a6, c6, rfl, hc6, hm6, s6, _⟩ := hq6.shape
  have hz5 := hb5.size
  have hz6 := hb6.size
  have hz4' : w.heap.size ≤ w4.heap.size := hb4.size
  have hb46 : Below w.heap.size w w6 := (hb4.trans (hb5.mono hz4')).trans (hb6.mono (by omega))
  have hs6 := hs.below hb46
  have hoo : decide (zs = zs) = true := by simp
  clear HUN hq hq6 hs4 hb5 hb6
  go_wp2_with fail
  refine (same_any a6 ao c6 c zs zs _ s6 hs6 (by omega)).mono ?_
  rintro e w7 ⟨rfl, m7, rfl⟩
  go_wp2_with fail
  refine (packs_ok _).mono ?_
  rintro e w8 ⟨rfl, hb8⟩
  have hbt : Below w.heap.size w w8 := (below_drewN hb46 m7).trans (hb8.mono (by simp; omega))
  clear s6 hs6 hb8 hb46
  go_wp2
  go_ret
  exact ⟨rfl, hbt⟩

/-- The law Packs, whatever came in. -/
theorem packs_any (ao : Option Addr) (c : Nat) (zs : List Int) (w : World) (hs : Sl w ao c zs) (hby : Byt zs) (hl : zs.length ≤ maxLen) :
    Calls Tryd.prog 4 #[.slice ao zs.length c] w fun e w' => e = .returned (.bool true) ∧ Below w.heap.size w w' := by
  by_cases h1 : zs.length ≤ 1048576
  · exact packs_small ao c zs w hs hby h1
  · exact packs_big ao zs.length c w h1 hl
end Go.Proofs.YtjafmnpobalepaaDoor
