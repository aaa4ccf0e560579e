/-
  packing.Unpack, segments.Unpack: walks.
-/
import Derived.Test.YtjafmnpobalepaaDoorStep
import Derived.Test.YtjafmnpobalepaaDoorPut
namespace Go.Proofs.YtjafmnpobalepaaDoor
open Go.RowKit

/-- A slice's length, for a loop's measure. -/
def lenOf : Value → Nat | .slice _ n _ => n | _ => 0

/-- What Unpack's two results are. -/
def Outs (w : World) (base : Nat) (r : Res) (pv ev : Value) : Prop :=
  match r with
  | .inl n => pv = .slice none 0 0 ∧ ev = .iface 28 (.int .i64 n)
  | .inr out => Own w base pv out ∧ ev = .nilIface

/-- A slice cut from the left. -/
theorem Sl.cut {w : World} {b off c l : Nat} {zs : List Int} (hc : zs.length ≤ c) (h : ∀ i, i < zs.length → w.cell? ⟨b, off + i, none⟩ = some (.int .u8 (zs.getD i 0)))
    {ao : Option Addr} (hao : ¬ c = l → ao = some ⟨b, off + l, none⟩) : Sl w ao (c - l) (zs.drop l) := by
  refine ⟨by simp; omega, fun hne => ?_⟩
  have hlt : l < zs.length := by
    rcases Nat.lt_or_ge l zs.length with h | h
    · exact h
    · exact absurd (List.drop_eq_nil_of_le h) hne
  refine ⟨b, off + l, hao (by omega), fun i hi => ?_⟩
  simp only [List.length_drop] at hi
  rw [Nat.add_assoc, h (l + i) (by omega)]
  simp [List.getD_eq_getElem?_getD]

theorem Sl.cut1 {w : World} {b off c l k : Nat} {t : Int} {r : List Int} (hlk : l = k + 1) (hc : r.length + 1 ≤ c) (h : ∀ i, i < r.length + 1 → w.cell? ⟨b, off + i, none⟩ = some (.int .u8 ((t :: r).getD i 0)))
    {ao : Option Addr} (hao : ¬ c = l → ao = some ⟨b, off + l, none⟩) : Sl w ao (c - l) (r.drop k) := by
  have := Sl.cut (zs := t :: r) (l := l) (c := c) (by simpa using hc) (by simpa using h) hao
  subst hlk
  simpa using this
theorem slice_eq {ao : Option Addr} {n n' c : Nat} (h : n = n') : Value.slice ao n c = .slice ao n' c := by rw [h]

set_option maxHeartbeats 1000000 in
theorem unpack_pk (ao : Option Addr) (c : Nat) (zs : List Int) (most : Int) (w : World) (hsl : Sl w ao c zs) (hby : Byt zs) (hlen : zs.length ≤ 4194304) (hm0 : 0 ≤ most) (hm : most ≤ 1048576) :
    Calls Tryd.prog 16 #[.slice ao zs.length c, .int .i64 most] w fun e w' => ∃ pv ev, e = .returned (.tuple #[pv, ev]) ∧ Outs w' w.heap.size (unp most zs []) pv ev ∧ Below w.heap.size w w' := by
  go_enter Tryd.func16, Tryd.ntmps16
  go_wp2
  go_loopw [0, 6] (fun v0 v6 wr => ∃ ao c rest out, v0 = .slice ao rest.length c ∧ rest.length ≤ 4194304 ∧ Sl w ao c rest ∧ Byt rest ∧ Own wr w.heap.size v6 out ∧ Below w.heap.size w wr ∧ (out.length : Int) ≤ most ∧ Hid (unp most rest out = unp most zs [])) (fun v0 _ _ => lenOf v0)
  case atStart => exact ⟨ao, c, zs, [], rfl, hlen, hsl, hby, Own.nil _ _, Below.refl _ _, by simpa using hm0, rfl⟩
  case round =>
    clear hsl hby hlen
    obtain ⟨ao, c, rest, out, rfl, hrl, hsl, hby, hown, hbel, hol, HU⟩ := hrel
    obtain ⟨ao6, cap6, rfl, hc6, hm6, hs6, hn6⟩ := hown.shape
    have hsz := hbel.size
    cases rest with
    | nil =>
      go_wp2
      go_ret2
      exact ⟨_, _, rfl, by rw [← HU.out, unp_nil]; exact ⟨hown, rfl⟩, hbel⟩
    | cons t r =>
      obtain ⟨b, off, rfl, hcells⟩ := hsl.2 (by simp)
      have hc := hsl.1
      simp only [List.length_cons] at hrl hcells hc
      have hbt := hby t (by simp)
      obtain ⟨ht0, ht1⟩ := hbt
      have c0 : w.cell? ⟨b, off, none⟩ = some (.int .u8 t) := by simpa using hcells 0 (by omega)
      have hb : b < w.heap.size := World.block_lt_of_cell? w _ c0
      have c0r : wr.cell? ⟨b, off, none⟩ = some (.int .u8 t) := by rw [hbel.cell (p := ⟨b, off, none⟩) hb]; exact c0
      simp only [List.length_cons]
      have hby' := hide hby
      clear hsl hby
      by_cases ht : t < 128
      · by_cases h1 : (r.length : Int) < t + 1
        · go_wp2_with (go_at_call 19; refine (step_p1 b off r.length c t _ hc ht0 ht h1 c0r).mono ?_; rintro e w' ⟨rfl, hb1⟩)
          go_ret2
          exact ⟨_, _, rfl, by rw [← HU.out, unp_p1 _ _ _ _ ht h1]; exact ⟨rfl, rfl⟩, (hbel.trans (hb1.mono hsz)).alloc (by have := hb1.size; omega) _⟩
        · by_cases h2 : most < (out.length : Int) + (t + 1)
          · go_wp2_with (go_at_call 19; refine (step_p2 b off r.length c t _ hc ht0 ht (by omega) c0r).mono ?_; rintro e w' ⟨rfl, hb1⟩)
            go_ret2
            exact ⟨_, _, rfl, by rw [← HU.out, unp_p2 _ _ _ _ ht (by omega) h2]; exact ⟨rfl, rfl⟩, (hbel.trans (hb1.mono hsz)).alloc (by have := hb1.size; omega) _⟩
          · have hn1 : (r.take (t + 1).toNat).length = (t + 1).toNat := by simp; omega
            have hnc : ∀ i, i < (r.take (t + 1).toNat).length → w.cell? ⟨b, off + 1 + i, none⟩ = some (.int .u8 ((r.take (t + 1).toNat).getD i 0)) := fun i hi => by
              rw [hn1] at hi
              rw [Nat.add_assoc, hcells (1 + i) (by omega)]
              simp [List.getD_eq_getElem?_getD, Nat.add_comm 1 i, hi]
            have HN := hide hn1
            have HC := hide hnc
            clear hn1 hnc
            go_wp2_with (first
              | (go_at_call 19; refine (step_p2 b off r.length c t _ hc ht0 ht (by omega) c0r).mono ?_; rintro e w' ⟨rfl, hb1⟩)
              | (go_at_call 20; go_loud (refine (put_plain w.heap.size b (off + 1) (t + 1).toNat (c - 1) (1 + (t + 1)) (t + 1) _ out (r.take (t + 1).toNat) _ ?_ ((hown.below hb1).alloc _) HN.out ?_ ?_).mono ?_)))
            · have := hb1.size; simp; omega
            · intro i hi
              rw [(((hbel.trans (hb1.mono hsz)).alloc (by have := hb1.size; omega) _)).cell (p := ⟨b, off + 1 + i, none⟩) hb]
              exact HC.out i hi
            · omega
            rintro e w3 ⟨v', rfl, hown3, hg3⟩
            have hS3 := Own.past (hown.below hb1) (by decide) hg3
            have cS3 : w3.cell? ⟨w'.heap.size, 0, none⟩ = some (.int .i64 (1 + (t + 1))) := by rw [block_cell hS3 0]; rfl
            have hb3 : Below w.heap.size w w3 := (((hbel.trans (hb1.mono hsz)).alloc (by have := hb1.size; omega) _)).trans (Own.gb ((hown.below hb1).alloc _) hg3 (by have := hb1.size; simp; omega))
            clear hS3 hg3 hb1 hown hs6 hn6
            go_wp2
            go_roundw
            case rel =>
              refine ⟨_, _, r.drop (t + 1).toNat, out ++ r.take (t + 1).toNat, slice_eq (by simp; omega), by simp; omega, Sl.cut1 (k := (t + 1).toNat) (by omega) hc hcells (fun h => by rw [if_neg h]), fun z hz => hby'.out z (List.mem_cons_of_mem _ (List.mem_of_mem_drop hz)), hown3, hb3, ?_, (unp_p3 _ _ _ _ ht (by omega) (by omega)).symm.trans HU.out⟩
              rw [List.length_append, HN.out]; omega
            case measure => simp [lenOf]; omega
      · rcases r with _ | ⟨x, _ | ⟨y, r⟩⟩
        · go_wp2_with (go_at_call 19; refine (step_c1 b off 0 c t _ hc ht ht1 (by omega) c0r).mono ?_; rintro e w' ⟨rfl, hb1⟩)
          go_ret2
          exact ⟨_, _, rfl, by rw [← HU.out, unp_c1 _ _ _ _ (by omega) (by simp)]; exact ⟨rfl, rfl⟩, (hbel.trans (hb1.mono hsz)).alloc (by have := hb1.size; omega) _⟩
        · go_wp2_with (go_at_call 19; refine (step_c1 b off 1 c t _ hc ht ht1 (by omega) c0r).mono ?_; rintro e w' ⟨rfl, hb1⟩)
          go_ret2
          exact ⟨_, _, rfl, by rw [← HU.out, unp_c1 _ _ _ _ (by omega) (by simp)]; exact ⟨rfl, rfl⟩, (hbel.trans (hb1.mono hsz)).alloc (by have := hb1.size; omega) _⟩
        · simp only [List.length_cons] at hrl hc hcells
          simp only [List.length_cons]
          obtain ⟨hx0, hx1⟩ := hby'.out x (by simp)
          obtain ⟨hy0, hy1⟩ := hby'.out y (by simp)
          have c1r : wr.cell? ⟨b, off + 1, none⟩ = some (.int .u8 x) := by rw [hbel.cell (p := ⟨b, off + 1, none⟩) hb, hcells 1 (by omega)]; rfl
          have c2r : wr.cell? ⟨b, off + 2, none⟩ = some (.int .u8 y) := by rw [hbel.cell (p := ⟨b, off + 2, none⟩) hb, hcells 2 (by omega)]; rfl
          obtain ⟨d, hd⟩ := Int.eq_ofNat_of_zero_le (show 0 ≤ x * 256 + y by omega)
          have HD := hide hd
          clear hd
          have hdd : d ≤ 65535 := by have := HD.out; omega
          by_cases hd0 : d = 0
          · subst hd0
            go_wp2_with (go_at_call 19; refine (step_c3 b off (r.length + 1 + 1) c t x y _ hc (by omega) ht1 (by omega) hx0 hx1 hy0 hy1 HD.out c0r c1r c2r).mono ?_; rintro e w' ⟨rfl, hb1⟩)
            go_ret2
            exact ⟨_, _, rfl, by rw [← HU.out, unp_c2 _ _ _ _ (by omega) (by simp) (Or.inl (by have := HD.out; simpa using this))]; exact ⟨rfl, rfl⟩, (hbel.trans (hb1.mono hsz)).alloc (by have := hb1.size; omega) _⟩
          by_cases h2 : out.length < d
          · go_wp2_with (go_at_call 19; refine (step_c4 b off (r.length + 1 + 1) c d t x y _ hc (by omega) ht1 (by omega) hx0 hx1 hy0 hy1 HD.out (by omega) c0r c1r c2r).mono ?_; rintro e w' ⟨rfl, hb1⟩)
            go_ret2
            exact ⟨_, _, rfl, by rw [← HU.out, unp_c2 _ _ _ _ (by omega) (by simp) (Or.inr (by have := HD.out; simp; omega))]; exact ⟨rfl, rfl⟩, (hbel.trans (hb1.mono hsz)).alloc (by have := hb1.size; omega) _⟩
          have hnot : ¬ ((x :: y :: r).getD 0 0 * 256 + (x :: y :: r).getD 1 0 = 0 ∨ (out.length : Int) < (x :: y :: r).getD 0 0 * 256 + (x :: y :: r).getD 1 0) := by
            have := HD.out; simp; omega
          have Hnot := hide hnot
          clear hnot
          by_cases h3 : most < (out.length : Int) + (t - 125)
          · go_wp2_with (go_at_call 19; refine (step_c4 b off (r.length + 1 + 1) c d t x y _ hc (by omega) ht1 (by omega) hx0 hx1 hy0 hy1 HD.out (by omega) c0r c1r c2r).mono ?_; rintro e w' ⟨rfl, hb1⟩)
            go_ret2
            exact ⟨_, _, rfl, by rw [← HU.out, unp_c3 _ _ _ _ (by omega) (by simp) Hnot.out (by omega)]; exact ⟨rfl, rfl⟩, (hbel.trans (hb1.mono hsz)).alloc (by have := hb1.size; omega) _⟩
          · obtain ⟨n, hn⟩ := Int.eq_ofNat_of_zero_le (show 0 ≤ t - 125 by omega)
            have HNN := hide hn
            clear hn
            have hn1 : n ≤ 130 := by have := HNN.out; omega
            have hn2 : (out.length : Int) + n ≤ most := by have := HNN.out; omega
            go_wp2_with (first
              | (go_at_call 19; refine (step_c4 b off (r.length + 1 + 1) c d t x y _ hc (by omega) ht1 (by omega) hx0 hx1 hy0 hy1 HD.out (by omega) c0r c1r c2r).mono ?_; rintro e w' ⟨rfl, hb1⟩)
              | (go_at_call 20; rw [HNN.out]; refine (put_copy w.heap.size n d 3 _ out _ ?_ ((hown.below hb1).alloc _) ?_ ?_ ?_ ?_).mono ?_))
            · have := hb1.size; simp; omega
            · omega
            · omega
            · omega
            · omega
            rintro e w3 ⟨v', rfl, hown3, hg3⟩
            have hS3 := Own.past (hown.below hb1) (by decide) hg3
            have cS3 : w3.cell? ⟨w'.heap.size, 0, none⟩ = some (.int .i64 3) := by rw [block_cell hS3 0]; rfl
            have hb3 : Below w.heap.size w w3 := (((hbel.trans (hb1.mono hsz)).alloc (by have := hb1.size; omega) _)).trans (Own.gb ((hown.below hb1).alloc _) hg3 (by have := hb1.size; simp; omega))
            clear hS3 hg3 hb1 hown hs6 hn6
            go_wp2
            go_roundw
            case rel =>
              refine ⟨_, _, r, cpy d n out, slice_eq (by omega), by omega, Sl.cut1 (l := 3) (k := 2) (r := x :: y :: r) rfl (by simpa using hc) (by simpa using hcells) (fun h => by rw [if_neg h]), fun z hz => hby'.out z (by simp [hz]), hown3, hb3, ?_, ?_⟩
              · rw [cpy_length]; omega
              · have e := unp_c4 most t (x :: y :: r) out (by omega) (by simp) Hnot.out (by omega)
                rw [HNN.out] at e
                have hd := HD.out
                simp only [List.getD_cons_zero, List.getD_cons_succ, List.drop_succ_cons, List.drop_zero, hd, Int.toNat_natCast] at e
                exact e.symm.trans HU.out
            case measure => simp [lenOf]; omega
set_option maxHeartbeats 1000000 in
theorem unpack_neg (ao : Option Addr) (c : Nat) (zs : List Int) (most : Int) (w : World) (hsl : Sl w ao c zs) (hby : Byt zs) (hlen : zs.length ≤ 4194304) (hm0 : most < 0) :
    Calls Tryd.prog 16 #[.slice ao zs.length c, .int .i64 most] w fun e w' => ∃ pv ev, e = .returned (.tuple #[pv, ev]) ∧ Outs w' w.heap.size (unp 0 zs []) pv ev ∧ Below w.heap.size w w' := by
  go_enter Tryd.func16, Tryd.ntmps16
  go_wp2
  go_loopw [0, 6] (fun v0 v6 wr => ∃ ao c rest out, v0 = .slice ao rest.length c ∧ rest.length ≤ 4194304 ∧ Sl w ao c rest ∧ Byt rest ∧ Own wr w.heap.size v6 out ∧ Below w.heap.size w wr ∧ (out.length : Int) ≤ 0 ∧ Hid (unp 0 rest out = unp 0 zs [])) (fun v0 _ _ => lenOf v0)
  case atStart => exact ⟨ao, c, zs, [], rfl, hlen, hsl, hby, Own.nil _ _, Below.refl _ _, by simp, rfl⟩
  case round =>
    clear hsl hby hlen
    obtain ⟨ao, c, rest, out, rfl, hrl, hsl, hby, hown, hbel, hol, HU⟩ := hrel
    obtain ⟨ao6, cap6, rfl, hc6, hm6, hs6, hn6⟩ := hown.shape
    have hsz := hbel.size
    cases rest with
    | nil =>
      go_wp2
      go_ret2
      exact ⟨_, _, rfl, by rw [← HU.out, unp_nil]; exact ⟨hown, rfl⟩, hbel⟩
    | cons t r =>
      obtain ⟨b, off, rfl, hcells⟩ := hsl.2 (by simp)
      have hc := hsl.1
      simp only [List.length_cons] at hrl hcells hc
      have hbt := hby t (by simp)
      obtain ⟨ht0, ht1⟩ := hbt
      have c0 : w.cell? ⟨b, off, none⟩ = some (.int .u8 t) := by simpa using hcells 0 (by omega)
      have hb : b < w.heap.size := World.block_lt_of_cell? w _ c0
      have c0r : wr.cell? ⟨b, off, none⟩ = some (.int .u8 t) := by rw [hbel.cell (p := ⟨b, off, none⟩) hb]; exact c0
      simp only [List.length_cons]
      have hby' := hide hby
      clear hsl hby
      by_cases ht : t < 128
      · by_cases h1 : (r.length : Int) < t + 1
        · go_wp2_with (go_at_call 19; refine (step_p1 b off r.length c t _ hc ht0 ht h1 c0r).mono ?_; rintro e w' ⟨rfl, hb1⟩)
          go_ret2
          exact ⟨_, _, rfl, by rw [← HU.out, unp_p1 _ _ _ _ ht h1]; exact ⟨rfl, rfl⟩, (hbel.trans (hb1.mono hsz)).alloc (by have := hb1.size; omega) _⟩
        · by_cases h2 : (0 : Int) < (out.length : Int) + (t + 1)
          · go_wp2_with (go_at_call 19; refine (step_p2 b off r.length c t _ hc ht0 ht (by omega) c0r).mono ?_; rintro e w' ⟨rfl, hb1⟩)
            go_ret2
            exact ⟨_, _, rfl, by rw [← HU.out, unp_p2 _ _ _ _ ht (by omega) h2]; exact ⟨rfl, rfl⟩, (hbel.trans (hb1.mono hsz)).alloc (by have := hb1.size; omega) _⟩
          · exact absurd h2 (by omega)
      · rcases r with _ | ⟨x, _ | ⟨y, r⟩⟩
        · go_wp2_with (go_at_call 19; refine (step_c1 b off 0 c t _ hc ht ht1 (by omega) c0r).mono ?_; rintro e w' ⟨rfl, hb1⟩)
          go_ret2
          exact ⟨_, _, rfl, by rw [← HU.out, unp_c1 _ _ _ _ (by omega) (by simp)]; exact ⟨rfl, rfl⟩, (hbel.trans (hb1.mono hsz)).alloc (by have := hb1.size; omega) _⟩
        · go_wp2_with (go_at_call 19; refine (step_c1 b off 1 c t _ hc ht ht1 (by omega) c0r).mono ?_; rintro e w' ⟨rfl, hb1⟩)
          go_ret2
          exact ⟨_, _, rfl, by rw [← HU.out, unp_c1 _ _ _ _ (by omega) (by simp)]; exact ⟨rfl, rfl⟩, (hbel.trans (hb1.mono hsz)).alloc (by have := hb1.size; omega) _⟩
        · simp only [List.length_cons] at hrl hc hcells
          simp only [List.length_cons]
          obtain ⟨hx0, hx1⟩ := hby'.out x (by simp)
          obtain ⟨hy0, hy1⟩ := hby'.out y (by simp)
          have c1r : wr.cell? ⟨b, off + 1, none⟩ = some (.int .u8 x) := by rw [hbel.cell (p := ⟨b, off + 1, none⟩) hb, hcells 1 (by omega)]; rfl
          have c2r : wr.cell? ⟨b, off + 2, none⟩ = some (.int .u8 y) := by rw [hbel.cell (p := ⟨b, off + 2, none⟩) hb, hcells 2 (by omega)]; rfl
          obtain ⟨d, hd⟩ := Int.eq_ofNat_of_zero_le (show 0 ≤ x * 256 + y by omega)
          have HD := hide hd
          clear hd
          have hdd : d ≤ 65535 := by have := HD.out; omega
          by_cases hd0 : d = 0
          · subst hd0
            go_wp2_with (go_at_call 19; refine (step_c3 b off (r.length + 1 + 1) c t x y _ hc (by omega) ht1 (by omega) hx0 hx1 hy0 hy1 HD.out c0r c1r c2r).mono ?_; rintro e w' ⟨rfl, hb1⟩)
            go_ret2
            exact ⟨_, _, rfl, by rw [← HU.out, unp_c2 _ _ _ _ (by omega) (by simp) (Or.inl (by have := HD.out; simpa using this))]; exact ⟨rfl, rfl⟩, (hbel.trans (hb1.mono hsz)).alloc (by have := hb1.size; omega) _⟩
          by_cases h2 : out.length < d
          · go_wp2_with (go_at_call 19; refine (step_c4 b off (r.length + 1 + 1) c d t x y _ hc (by omega) ht1 (by omega) hx0 hx1 hy0 hy1 HD.out (by omega) c0r c1r c2r).mono ?_; rintro e w' ⟨rfl, hb1⟩)
            go_ret2
            exact ⟨_, _, rfl, by rw [← HU.out, unp_c2 _ _ _ _ (by omega) (by simp) (Or.inr (by have := HD.out; simp; omega))]; exact ⟨rfl, rfl⟩, (hbel.trans (hb1.mono hsz)).alloc (by have := hb1.size; omega) _⟩
          exact absurd h2 (by omega)

theorem unp_neg (most : Int) (zs : List Int) (hby : Byt zs) (hm : most < 0) : unp most zs [] = unp 0 zs [] := by
  cases zs with
  | nil => rw [unp_nil, unp_nil]
  | cons t r =>
    obtain ⟨h0, h1⟩ := hby t (by simp)
    by_cases ht : t < 128
    · by_cases h : (r.length : Int) < t + 1
      · rw [unp_p1 _ _ _ _ ht h, unp_p1 _ _ _ _ ht h]
      · rw [unp_p2 _ _ _ _ ht h (by simp; omega), unp_p2 _ _ _ _ ht h (by simp; omega)]
    · by_cases h : r.length < 2
      · rw [unp_c1 _ _ _ _ ht h, unp_c1 _ _ _ _ ht h]
      · by_cases h2 : r.getD 0 0 * 256 + r.getD 1 0 = 0 ∨ (([] : List Int).length : Int) < r.getD 0 0 * 256 + r.getD 1 0
        · rw [unp_c2 _ _ _ _ ht h h2, unp_c2 _ _ _ _ ht h h2]
        · rw [unp_c3 _ _ _ _ ht h h2 (by simp; omega), unp_c3 _ _ _ _ ht h h2 (by simp; omega)]

/-- packing.Unpack, whatever 'most'. -/
theorem unpack_any (ao : Option Addr) (c : Nat) (zs : List Int) (most : Int) (w : World) (hsl : Sl w ao c zs) (hby : Byt zs) (hlen : zs.length ≤ 4194304) (hm : most ≤ 1048576) :
    Calls Tryd.prog 16 #[.slice ao zs.length c, .int .i64 most] w fun e w' => ∃ pv ev, e = .returned (.tuple #[pv, ev]) ∧ Outs w' w.heap.size (unp most zs []) pv ev ∧ Below w.heap.size w w' := by
  by_cases h0 : 0 ≤ most
  · exact unpack_pk ao c zs most w hsl hby hlen h0 hm
  · rw [unp_neg most zs hby (by omega)]
    exact unpack_neg ao c zs most w hsl hby hlen (by omega)

/-- segments.Unpack. -/
theorem unpack_seg (ao : Option Addr) (c : Nat) (zs : List Int) (most : Int) (w : World) (hsl : Sl w ao c zs) (hby : Byt zs) (hlen : zs.length ≤ 4194304) (hm : most ≤ 1048576) :
    Calls Tryd.prog 7 #[.slice ao zs.length c, .int .i64 most] w fun e w' => ∃ pv ev, e = .returned (.tuple #[pv, ev]) ∧ Outs w' w.heap.size (unp most zs []) pv ev ∧ Below w.heap.size w w' := by
  go_enter Tryd.func7, Tryd.ntmps7
  go_wp2_with (go_at_call 16; refine (unpack_any ao c zs most _ hsl hby hlen hm).mono ?_; rintro e w' ⟨pv, ev, rfl, ho, hb⟩)
  go_ret2
  exact ⟨_, _, rfl, ho, hb⟩
end Go.Proofs.YtjafmnpobalepaaDoor
