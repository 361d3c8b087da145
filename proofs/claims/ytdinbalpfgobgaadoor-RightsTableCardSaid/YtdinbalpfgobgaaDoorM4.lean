import Derived.Test.YtdinbalpfgobgaaDoorM3
import Derived.WalkSmall
import Derived.OwnWalk
section
namespace Go.Proofs
open Go.RowKit
set_option linter.unusedVariables false
set_option linter.unusedSimpArgs false

theorem eq_need_run (d : Nat) (a k r : Int) (W : World) : (Op.equalIn (d + 2) 36 (.agg #[.int .i64 a, .int .i64 k, .int .u8 r]) (.agg #[.int .i64 a, .int .i64 k, .int .u8 r])).run Tryd.prog W = .ok true W := by
  have h1 : Tryd.prog.underlying 36 = some (.struct (Tryd.prog.fieldsOf 36)) := by kernel_rfl
  have h2 : Tryd.prog.stoodInHeld 36 = false := by kernel_rfl
  rw [run_equalIn_agg (ht := h1) (hp := h2)]
  simp [go_sem, Tryd.underlying36, Op.eqFields]
theorem neq_need (a k r : Int) (W : World) : (binOp .neq 36 (.agg #[.int .i64 a, .int .i64 k, .int .u8 r]) (.agg #[.int .i64 a, .int .i64 k, .int .u8 r])).run Tryd.prog W = .ok (.bool false) W := by
  rw [run_neq_struct, eq_need_run 9998]; rfl
set_option maxHeartbeats 3200000 in
set_option maxRecDepth 100000 in
/-- Two lists that read the same. -/
theorem same_any {w : World} {V1 V2 : Value} {l : List NeedC} (h1 : NeedsR w V1 l) (h2 : NeedsR w V2 l) (hl : l.length ≤ 1000) :
    Calls Tryd.prog 10 #[V1, V2] w fun e w' => e = .returned (.bool true) ∧ Below w.heap.size w w' := by
  obtain ⟨A1, c1, rfl, g1⟩ := h1
  obtain ⟨A2, c2, rfl, g2⟩ := h2
  obtain ⟨n, hn⟩ : ∃ n, n = l.length := ⟨_, rfl⟩
  rw [← hn] at hl ⊢
  have HN := Lib.hid hn
  clear hn
  go_enter Tryd.func10, Tryd.ntmps10
  go_wp2
  go_loopg [5] n (fun gh iv wr => ∃ j : Nat, j + gh = n ∧ iv = .int .i64 j ∧ Hid (Below w.heap.size w wr))
  case atStart => exact ⟨0, by omega, rfl, Lib.hid (Below.refl _ _)⟩
  case round =>
    obtain ⟨j, hj, rfl, HH⟩ := hrel
    by_cases hlt : j < n
    · have j0 : (0 : Int) ≤ (j : Int) := by omega
      have j1 : (j : Int) < (n : Int) := by omega
      obtain ⟨x, hx⟩ : ∃ x, l[j]? = some x := ⟨_, List.getElem?_eq_getElem (by rw [← HN.out]; exact hlt)⟩
      obtain ⟨b1, rfl, q1, q2, q3, q4⟩ := g1 j x hx
      obtain ⟨b2, rfl, p1, p2, p3, p4⟩ := g2 j x hx
      have x0 := (HH.out.cell (p := ⟨b1, j * 3, none⟩) q1).trans q2
      have x1 := (HH.out.cell (p := ⟨b1, j * 3 + 1, none⟩) q1).trans q3
      have x2 := (HH.out.cell (p := ⟨b1, j * 3 + 2, none⟩) q1).trans q4
      have y0 := (HH.out.cell (p := ⟨b2, j * 3, none⟩) p1).trans p2
      have y1 := (HH.out.cell (p := ⟨b2, j * 3 + 1, none⟩) p1).trans p3
      have y2 := (HH.out.cell (p := ⟨b2, j * 3 + 2, none⟩) p1).trans p4
      have hneq := fun W => neq_need x.arg x.kind x.r W
      clear q1 q2 q3 q4 p1 p2 p3 p4 g1 g2 hx
      go_wp2
      go_quiet (fail)
      go_wp2
      go_roundg (n - j - 1)
      case measure => omega
      case rel => exact ⟨j + 1, by omega, by go_num, Lib.hid (below_drewN HH.out _)⟩
    · obtain rfl : n = j := by omega
      go_wp2
      go_ret
      exact ⟨rfl, HH.out⟩
end Go.Proofs
end
section
namespace Go.Proofs
open Go.RowKit
set_option linter.unusedVariables false
set_option linter.unusedSimpArgs false

/-! ### The document's Demands -/
theorem row_facts (k : Int) : ((rowOf k).k0 < 0 ∧ (rowOf k).k1 < 0 ∧ demP k = []) ∨
    (0 ≤ (rowOf k).k0 ∧ (rowOf k).k1 < 0 ∧ (rowOf k).r0 % 256 = (rowOf k).r0 ∧ demP k = [⟨0, (rowOf k).k0, (rowOf k).r0⟩]) ∨
    (0 ≤ (rowOf k).k0 ∧ 0 ≤ (rowOf k).k1 ∧ (rowOf k).r0 % 256 = (rowOf k).r0 ∧ (rowOf k).r1 % 256 = (rowOf k).r1 ∧ demP k = [⟨0, (rowOf k).k0, (rowOf k).r0⟩, ⟨1, (rowOf k).k1, (rowOf k).r1⟩]) := by
  rcases call_cases k with rfl | rfl | rfl | rfl | rfl | rfl | rfl | rfl | rfl | rfl | rfl | rfl | rfl | rfl | rfl | rfl | rfl | rfl | rfl | rfl | rfl | rfl | hk
  case inr.inr.inr.inr.inr.inr.inr.inr.inr.inr.inr.inr.inr.inr.inr.inr.inr.inr.inr.inr.inr.inr =>
    have h0 : rowOf k = rowAt 0 := by unfold rowOf; rw [if_neg (by omega)]
    have h1 : demP k = [] := demP_none fun x hx e => by
      have : ∀ x ∈ tableE, 1 ≤ x.1 ∧ x.1 ≤ 22 := by decide
      have := this x hx
      omega
    rw [h0, h1]
    exact .inl ⟨by decide, by decide, rfl⟩
  all_goals first
    | exact .inl ⟨by decide, by decide, rfl⟩
    | exact .inr (.inl ⟨by decide, by decide, by decide, rfl⟩)
    | exact .inr (.inr ⟨by decide, by decide, by decide, by decide, rfl⟩)
theorem needs_own {w : World} {B : Nat} {v : Value} {l : List NeedC} (h : w.ownsRow B 36 3 v l.length (l.flatMap NeedC.cells)) : NeedsR w v l := by
  rcases h.2 with ⟨rfl, h0⟩ | ⟨g, cap, cur, rfl, _, hg, _⟩
  · have : l = [] := List.eq_nil_of_length_eq_zero h0
    subst this
    exact ⟨none, 0, rfl, fun i x hx => by simp at hx⟩
  · refine ⟨some ⟨g, 0, none⟩, cap, rfl, fun i x hx => ⟨g, rfl, (Array.getElem?_eq_some_iff.1 hg).1, ?_, ?_, ?_⟩⟩
    all_goals
      have hadd : ∀ j, (⟨g, 0, none⟩ : Addr).add j = ⟨g, j, none⟩ := fun j => by unfold Addr.add; split <;> simp_all
    · have := h.cells rfl (i * 3 + 0) _ (flat_at l i x 0 hx (by omega))
      rw [hadd] at this; exact this
    · have := h.cells rfl (i * 3 + 1) _ (flat_at l i x 1 hx (by omega))
      rw [hadd] at this; exact this
    · have := h.cells rfl (i * 3 + 2) _ (flat_at l i x 2 hx (by omega))
      rw [hadd] at this; exact this
theorem Tryd.need_info : (Tryd.prog.info? 36).map (fun i => (i.zero, i.size, i.bytes)) = some (some (.agg #[.int .i64 0, .int .i64 0, .int .u8 0]), 3, 24) := by kernel_rfl
set_option maxHeartbeats 2000000 in
set_option maxRecDepth 100000 in
theorem rdem_any (k : Int) (w : World) :
    Calls Tryd.prog 6 #[.int .i64 k] w fun e w' => ∃ v, e = .returned v ∧ Below w.heap.size w w' ∧ NeedsR w' v (demP k) := by
  obtain ⟨i0, hi, hz0, hz1, hz2⟩ := info_parts Tryd.need_info
  have e5 := rof_any k w
  have hF := row_facts k
  obtain ⟨⟨nm, ar, k0, r0, k1, r1⟩, hx⟩ : ∃ x, x = rowOf k := ⟨_, rfl⟩
  rw [← hx] at e5 hF
  simp only at hF
  clear hx
  rcases hF with ⟨f0, f1, hd⟩ | ⟨f0, f1, m0, hd⟩ | ⟨f0, f1, m0, m1, hd⟩
  · rw [hd]
    have n0 : ¬ 0 ≤ k0 := by omega
    have n1 : ¬ 0 ≤ k1 := by omega
    clear f0 f1 hd
    go_enter Tryd.func6, Tryd.ntmps6
    go_wp2_with (go_at_call 5; refine e5.mono ?_; rintro e w1 ⟨rfl, b1⟩)
    go_ret
    exact ⟨_, rfl, b1.alloc b1.size _, none, 0, rfl, fun i x hx => by simp at hx⟩
  · rw [hd]
    have n1 : ¬ 0 ≤ k1 := by omega
    clear f1 hd
    go_enter Tryd.func6, Tryd.ntmps6
    go_wp2_with (first
      | (go_at_call 5; refine e5.mono ?_; rintro e w1 ⟨rfl, b1⟩)
      | (at_builtin; refine wpList_append_own _ rfl _ _ 26 rfl w.heap.size 36 i0 (.agg #[.int .i64 0, .int .i64 0, .int .u8 0]) 3 24 Tryd.underlying26 hi hz0 hz1 hz2 rfl (by decide) _ _ _ rfl (World.ownsRow_nil _ _ _ _) ⟨w1.heap.size + 1, 0, none⟩ 1 1 [.int .i64 0, .int .i64 k0, .int .u8 r0] rfl rfl ?c1 ?c2 ?c3 ?c4 ?c5 ?_))
    case c1 =>
      intro j u hj
      match j, hj with
      | 0, hj => simp at hj; subst hj; simp [Addr.add]
      | 1, hj => simp at hj; subst hj; simp [Addr.add]
      | 2, hj => simp at hj; subst hj; simp [Addr.add]
    case c2 => intro u hu; simp at hu; rcases hu with rfl | rfl | rfl <;> rfl
    case c3 => unfold maxLen; omega
    case c4 => omega
    case c5 => have := b1.size; simp; omega
    intro v' w2 hown' hgrow _
    have hold : ∀ j, w2.cell? ⟨w1.heap.size, j, none⟩ = (#[Value.string ⟨nm.toArray⟩, .int .i64 ar, .int .i64 k0, .int .i64 r0, .int .i64 k1, .int .i64 r1])[j]? := fun j => by
      have h1 := hgrow.block w1.heap.size (by simp; omega) (by simp [Value.ownBlock])
      rw [World.cell?_of_block (a := ⟨w1.heap.size, j, none⟩) h1]
      simp
    have x4 := hold 4
    have x5 := hold 5
    simp at x4 x5
    have hb2 : Below w.heap.size w w2 := ((b1.alloc b1.size _).alloc (by have := b1.size; simp; omega) _).grown hgrow (by have := b1.size; simp; omega) (fun k hk => by simp [Value.ownBlock] at hk)
    clear hold
    go_wp2
    go_ret
    exact ⟨_, rfl, hb2, needs_own (l := [⟨0, k0, r0⟩]) (by simpa using hown')⟩
  · rw [hd]
    clear hd
    go_enter Tryd.func6, Tryd.ntmps6
    go_wp2_with (first
      | (go_at_call 5; refine e5.mono ?_; rintro e w1 ⟨rfl, b1⟩)
      | (at_builtin; refine wpList_append_own _ rfl _ _ 26 rfl w.heap.size 36 i0 (.agg #[.int .i64 0, .int .i64 0, .int .u8 0]) 3 24 Tryd.underlying26 hi hz0 hz1 hz2 rfl (by decide) _ _ _ rfl (World.ownsRow_nil _ _ _ _) ⟨w1.heap.size + 1, 0, none⟩ 1 1 [.int .i64 0, .int .i64 k0, .int .u8 r0] rfl rfl ?c1 ?c2 ?c3 ?c4 ?c5 ?_))
    case c1 =>
      intro j u hj
      match j, hj with
      | 0, hj => simp at hj; subst hj; simp [Addr.add]
      | 1, hj => simp at hj; subst hj; simp [Addr.add]
      | 2, hj => simp at hj; subst hj; simp [Addr.add]
    case c2 => intro u hu; simp at hu; rcases hu with rfl | rfl | rfl <;> rfl
    case c3 => unfold maxLen; omega
    case c4 => omega
    case c5 => have := b1.size; simp; omega
    intro v' w2 hown' hgrow _
    have hold : ∀ j, w2.cell? ⟨w1.heap.size, j, none⟩ = (#[Value.string ⟨nm.toArray⟩, .int .i64 ar, .int .i64 k0, .int .i64 r0, .int .i64 k1, .int .i64 r1])[j]? := fun j => by
      have h1 := hgrow.block w1.heap.size (by simp; omega) (by simp [Value.ownBlock])
      rw [World.cell?_of_block (a := ⟨w1.heap.size, j, none⟩) h1]
      simp
    have x4 := hold 4
    have x5 := hold 5
    simp at x4 x5
    have hb2 : Below w.heap.size w w2 := ((b1.alloc b1.size _).alloc (by have := b1.size; simp; omega) _).grown hgrow (by have := b1.size; simp; omega) (fun k hk => by simp [Value.ownBlock] at hk)
    clear hold
    go_wp2_with (at_builtin; refine wpList_append_own _ rfl _ _ 26 rfl w.heap.size 36 i0 (.agg #[.int .i64 0, .int .i64 0, .int .u8 0]) 3 24 Tryd.underlying26 hi hz0 hz1 hz2 rfl (by decide) _ _ _ rfl (hown'.alloc _) ⟨w2.heap.size, 0, none⟩ 1 1 [.int .i64 1, .int .i64 k1, .int .u8 r1] rfl rfl ?c1 ?c2 ?c3 ?c4 ?c5 ?_)
    case c1 =>
      intro j u hj
      match j, hj with
      | 0, hj => simp at hj; subst hj; simp [Addr.add]
      | 1, hj => simp at hj; subst hj; simp [Addr.add]
      | 2, hj => simp at hj; subst hj; simp [Addr.add]
    case c2 => intro u hu; simp at hu; rcases hu with rfl | rfl | rfl <;> rfl
    case c3 => unfold maxLen; omega
    case c4 => omega
    case c5 => have := hb2.size; simp; omega
    intro v3 w3 hown3 hgrow3 _
    go_wp2
    go_ret
    exact ⟨_, rfl, (hb2.alloc hb2.size _).grown hgrow3 (by have := hb2.size; simp; omega) (fun k hk => (hown'.lt k hk).1), needs_own (l := [⟨0, k0, r0⟩, ⟨1, k1, r1⟩]) (by simpa using hown3)⟩
end Go.Proofs
end
