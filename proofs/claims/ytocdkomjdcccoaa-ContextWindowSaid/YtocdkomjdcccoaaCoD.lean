import Derived.Test.YtocdkomjdcccoaaProg
import Derived.Test.YtocdkomjdcccoaaCoC
import Derived.WalkKit
import Derived.WalkSpells
import Derived.Laws.Pointers
import Derived.Outline
import Derived.BigQuiet
import Derived.Deep.QuietTactic
import Derived.Deep.DeepFit
import Derived.Deep.RegionHeld3
import Derived.Deep.RegionLaw
import Derived.KernelRfl
import Derived.IntWalk
namespace Go.Proofs
open Go.RowKit
set_option linter.unusedVariables false

theorem Try.info_C : (Try.prog.info? 79).map (fun i => (i.zero, i.size, i.bytes)) = some (some (.agg #[.int .u64 0, .bool false, .int .u64 0, .int .u64 0, .slice none 0 0, .int .i64 0]), 6, 64) := by kernel_rfl

theorem size_C {w : World} {g : Nat} {S : List Nat} {t : Tab Cx} (h : TabAt w g S t) :
    Calls Try.prog 49 #[.pointer (some ⟨g, 0, none⟩)] w fun e w' => e = .returned (.int .i64 t.size) ∧ w = w' := by
  obtain ⟨VS, VF, hB, hS, hF, rfl⟩ := h
  have c0 := hB.cell 0
  clear hB hS hF
  go_enter Try.func49, Try.ntmps49
  go_wp2
  go_ret
  exact ⟨rfl, rfl⟩
theorem none_C {w : World} {g : Nat} {S : List Nat} {t : Tab Cx} (h : TabAt w g S t) (hw : t.WF) :
    Calls Try.prog 35 #[.pointer (some ⟨g, 0, none⟩)] w fun e w' => e = .returned (.bool false) ∧ w = w' := by
  have s0 := hw.s0
  have hb : (t.size == 0) = false := by simp; omega
  go_enter Try.func35, Try.ntmps35
  go_wp2_with (go_at_call 49; refine (size_C h).mono ?_; rintro e w' ⟨rfl, rfl⟩)
  go_ret
  exact ⟨rfl, rfl⟩
theorem free_C {w : World} {g : Nat} {S : List Nat} {t : Tab Cx} (h : TabAt w g S t) (hw : t.WF) :
    Calls Try.prog 34 #[.pointer (some ⟨g, 0, none⟩)] w fun e w' => e = .returned (.int .i64 t.frees) ∧ ∃ n, w' = w.drewN n := by
  obtain ⟨VS, VF, hB, hS, hF, rfl⟩ := h
  obtain ⟨A, c, rfl, _⟩ := hS.val
  obtain ⟨A', c', rfl, _⟩ := hF.val
  have c0 := hB.cell 0
  have c2 := hB.cell 2
  have c3 := hB.cell 3
  have s0 := hw.s0
  have s1 := hw.s1
  have hl := hw.len
  have hf := hw.freed_len
  have e : t.frees = t.size - t.spots.length + t.freed.length := rfl
  obtain ⟨m, hm⟩ : ∃ m, m = t.spots.length := ⟨_, rfl⟩
  obtain ⟨k, hk⟩ : ∃ k, k = t.freed.length := ⟨_, rfl⟩
  rw [← hm, ← hk] at e
  rw [← hm] at hl hf c2
  rw [← hk] at hf c3
  rw [e]
  have e1 : IntKind.i64.wrap (t.size - m) = t.size - m := IntWalk.i64_in _ (by omega)
  have e2 : IntKind.i64.wrap (t.size - m + k) = t.size - m + k := IntWalk.i64_in _ (by omega)
  clear hB hS hF hw e hm hk
  go_enter Try.func34, Try.ntmps34
  go_wp2
  go_quiet (fail)
  go_wp2
  go_ret
  exact ⟨rfl, _, rfl⟩
theorem at_C {w : World} {g : Nat} {S : List Nat} {t : Tab Cx} (h : TabAt w g S t) (hw : t.WF) (i : Int) (i0 : -9223372036854775808 ≤ i) (i1 : i ≤ 9223372036854775807) :
    Calls Try.prog 52 #[.pointer (some ⟨g, 0, none⟩), .int .i64 i] w fun e w' => e = .returned (.tuple #[.agg #[.int .i64 (t.atIdx i), .int .u64 (t.atGen i)], .bool (t.atIs i)]) ∧ Chg [] w w' := by
  have h0 := h
  obtain ⟨VS, VF, hB, hS, hF, rfl⟩ := h
  rcases live_cases t i with ⟨s, hs⟩ | hno
  · obtain ⟨q1, q2, q3⟩ := live_some hs
    rw [q1, q2, q3]
    obtain ⟨j0, hj, hth⟩ := live_iff.1 hs
    obtain ⟨k, rfl⟩ := Int.eq_ofNat_of_zero_le j0
    simp only [Int.toNat_natCast] at hj
    obtain ⟨gs, cs, rfl, _, hcs, hgs, hk, a0, a1, _⟩ := TabAt.open_spot hS hj
    rw [hth] at a1
    have c2 := hB.cell 2
    obtain ⟨m, hm⟩ : ∃ m, m = t.spots.length := ⟨_, rfl⟩
    rw [← hm] at c2 hk hcs
    have lg := hB.lt
    clear hB hS hF hs hj q1 q2 q3 hm
    go_enter Try.func52, Try.ntmps52
    go_wp2_with (go_at_call 35; refine (none_C (h0.quiet (Chg.alloc (Chg.refl _ _) _)) hw).mono ?_; rintro e w' ⟨rfl, rfl⟩)
    exact bodyPost_ret (v := .tuple #[.agg #[.int .i64 k, .int .u64 s.gen], .bool true]) (by simp [results, Try.results52, go_sem]) rfl ⟨rfl, (Chg.refl _ _).alloc _⟩
  · obtain ⟨q1, q2, q3, _⟩ := live_none hno
    rw [q1, q2, q3]
    clear q1 q2 q3
    obtain ⟨A, c, rfl, _⟩ := hS.val
    have c2 := hB.cell 2
    have lg := hB.lt
    by_cases j0 : i < 0
    · clear hB hS hF hno
      go_enter Try.func52, Try.ntmps52
      go_wp2_with (go_at_call 35; refine (none_C (h0.quiet (Chg.alloc (Chg.refl _ _) _)) hw).mono ?_; rintro e w' ⟨rfl, rfl⟩)
      exact bodyPost_ret (v := .tuple #[.agg #[.int .i64 0, .int .u64 0], .bool false]) (by simp [results, Try.results52, go_sem]) rfl ⟨rfl, (Chg.refl _ _).alloc _⟩
    · obtain ⟨k, rfl⟩ := Int.eq_ofNat_of_zero_le (by omega : 0 ≤ i)
      by_cases hk : k < t.spots.length
      · have hj : t.spots[k]? = some (t.spots[k]) := List.getElem?_eq_getElem hk
        have hth : (t.spots[k]).there = false := by
          cases hb : (t.spots[k]).there with
          | false => rfl
          | true => have := live_nat.2 ⟨hj, hb⟩; rw [hno] at this; cases this
        obtain ⟨gs, cs, hv, _, hcs, hgs, hk, a0, a1, _⟩ := TabAt.open_spot hS hj
        injection hv with hA _ hc
        subst hA
        rw [hth] at a1
        obtain ⟨m, hm⟩ : ∃ m, m = t.spots.length := ⟨_, rfl⟩
        rw [← hm] at c2 hk hcs
        clear hB hS hF hno hj hth hm a0
        go_enter Try.func52, Try.ntmps52
        go_wp2_with (go_at_call 35; refine (none_C (h0.quiet (Chg.alloc (Chg.refl _ _) _)) hw).mono ?_; rintro e w' ⟨rfl, rfl⟩)
        exact bodyPost_ret (v := .tuple #[.agg #[.int .i64 0, .int .u64 0], .bool false]) (by simp [results, Try.results52, go_sem]) rfl ⟨rfl, (Chg.refl _ _).alloc _⟩
      · obtain ⟨m, hm⟩ : ∃ m, m = t.spots.length := ⟨_, rfl⟩
        rw [← hm] at c2 hk
        clear hB hS hF hno hm
        go_enter Try.func52, Try.ntmps52
        go_wp2_with (go_at_call 35; refine (none_C (h0.quiet (Chg.alloc (Chg.refl _ _) _)) hw).mono ?_; rintro e w' ⟨rfl, rfl⟩)
        exact bodyPost_ret (v := .tuple #[.agg #[.int .i64 0, .int .u64 0], .bool false]) (by simp [results, Try.results52, go_sem]) rfl ⟨rfl, (Chg.refl _ _).alloc _⟩

/-- The ref that is compared: is it the one that is asked for? -/
theorem nil_C (w : World) : Calls Try.prog 49 #[.pointer none] w fun e w' => e = .returned (.int .i64 0) ∧ w = w' := by
  go_enter Try.func49, Try.ntmps49
  go_wp2
  go_ret
  exact ⟨rfl, rfl⟩

theorem take_C {w : World} {g : Nat} {S : List Nat} {t : Tab Cx} (h : TabAt w g S t) (hw : t.WF) (hf : t.frees ≠ 0) :
    Calls Try.prog 36 #[.pointer (some ⟨g, 0, none⟩)] w fun e w' => e = .returned (.int .i64 (t.takeAt : Nat)) ∧ Turns g S (t.take cx0) w w' := by
  obtain ⟨VS, VF, hB, hS, hF, rfl⟩ := h
  obtain ⟨A, c, rfl, _⟩ := hS.val
  have hs1 := hw.s1
  have hl := hw.len
  rcases List.eq_nil_or_concat t.freed with hn | ⟨l, k, hk⟩
  · obtain ⟨q1, q2⟩ := take_nil (z := cx0) hn
    rw [q1, q2]
    obtain ⟨i0, hi0, hz0, hz1, hz2⟩ := info_parts Try.info_C
    have hlt : (t.spots.length : Int) < t.size := by unfold Tab.frees at hf; rw [hn] at hf; simp at hf; omega
    rw [hn] at hF
    obtain ⟨A', c', rfl, _⟩ := hF.val
    have c1 := hB.cell 1
    have c2 := hB.cell 2
    have c3 := hB.cell 3
    have f2 := hB.frozen 2
    have c2' : ((w.alloc (.cells #[.int .u64 t.first, .bool false, .int .u64 0, .int .u64 0, .slice none 0 0, .int .i64 0] 79)).drew).cell? ⟨g, 2, none⟩ = some (.slice A t.spots.length c) := (hB.alloc _).cell 2
    have f2a' : ((w.alloc (.cells #[.int .u64 t.first, .bool false, .int .u64 0, .int .u64 0, .slice none 0 0, .int .i64 0] 79)).drew).frozen? ⟨g, 2, none⟩ = false := (hB.alloc _).frozen 2
    have lg := hB.lt
    have hne : ∀ k ∈ foot (.slice A t.spots.length c), k ≠ g := fun k hk e => hS.ty hB (by decide) (by rw [← e]; exact hk)
    have hne' : (Value.slice A t.spots.length c).ownBlock ≠ some g := fun e => hne g (row_mem e) rfl
    have hff := hS.ty2 hF (by decide)
    have HB := Lib.hid hB
    have HF := Lib.hid hF
    have HQ := Lib.hid hff
    have HN := Lib.hid hn
    have hl4 : t.spots.length + 1 ≤ 4097 := by omega
    clear hB hF hf hn q1 q2 hff
    go_enter Try.func36, Try.ntmps36
    go_wp2
    go_region_law
      ((refine step_append_row _ (by rfl) _ _ _ (by rfl) 79 i0 _ 6 64 Try.underlying71 hi0 hz0 hz1 hz2 rfl (.slice A t.spots.length c) t.spots.length (spotCells t.spots) (by rfl) ((hS.alloc _).drew) ⟨w.heap.size, 0, none⟩ 1 1 [.int .u64 t.first, .bool false, .int .u64 0, .int .u64 0, .slice none 0 0, .int .i64 0] (by rfl) (by rfl) (World.news_of_block (cs := #[.int .u64 t.first, .bool false, .int .u64 0, .int .u64 0, .slice none 0 0, .int .i64 0]) (t := 79) (fr := (0, 0)) (heap_alloc_new w _)) (by simp [Value.oneCell']) (by omega) (by unfold maxLen; omega) (by omega) (w.heap.size + 1) (by simp) ?_; intro gg cap w1 hown1 hgrow hat hlt1; have e2 : w1.cell? ⟨g, 2, none⟩ = some (.slice A t.spots.length c) := (hgrow.cell_far _ (by simp; omega) (Ne.symm hne')).trans c2'; have e3 : w1.frozen? ⟨g, 2, none⟩ = false := (hgrow.frozen_far _ (by simp; omega) (Ne.symm hne')).trans f2a'))
    all_goals
      have HT := Lib.hid (Turns.grow (s := ⟨t.first, false, cx0⟩) HB.out hS (HN.out ▸ HF.out) hown1 hgrow hat)
      go_wp2
      go_ret
      exact ⟨rfl, HT.out⟩
  · rw [List.concat_eq_append] at hk
    obtain ⟨q1, q2⟩ := take_cons (z := cx0) hk
    rw [q1, q2]
    rw [hk] at hF
    obtain ⟨gf, cf, rfl, hft, hcf, hcell, hfz, hlt⟩ := hF.form (by simp)
    have a3 : w.cell? ⟨gf, l.length, none⟩ = some (.int .i64 (k : Nat)) := hcell _ _ (by unfold numCells; simp)
    have c3 := hB.cell 3
    have f3 := hB.frozen 3
    have hne : gf ≠ g := fun e => hF.ty hB (by decide) (by rw [hft]; simp [e])
    have HT := Lib.hid (Turns.cut (k := k) hB hS (hF.cut (k := l.length) (by simp)) hne hlt)
    have hlen : (l ++ [k]).length = l.length + 1 := by simp
    rw [hlen] at c3 hcf
    obtain ⟨m, hm⟩ : ∃ m, m = l.length := ⟨_, rfl⟩
    rw [← hm] at a3 c3 hcf
    have hm2 : m ≤ 4096 := by have := hw.freed_len; rw [hk] at this; simp at this; omega
    have HM := Lib.hid hm
    clear hB hS hF hcell hfz hft hlen hm q1 q2 hk hf
    go_enter Try.func36, Try.ntmps36
    go_wp2
    go_ret
    refine ⟨rfl, ?_⟩
    rw [HM.out]
    exact HT.out
end Go.Proofs
