import Derived.Test.YtfpljhjndjpdmaaRiR
namespace Go.Proofs
open Go.RowKit
set_option linter.unusedVariables false

/-- In the midst of a scratching: the row is of ints still; else nothing has turned. -/
def Scr (w0 wr : World) (v : Value) (m : Nat) : Prop :=
  ∃ vs, Row wr 3 1 v m vs ∧ (∀ j, j < m → ∃ x, vs[j]? = some (.int .i64 x)) ∧ Chg (foot v) w0 wr
theorem Scr.start {w0 : World} {v : Value} {l : List Int} (h : Row w0 3 1 v l.length (ints l)) : Scr w0 w0 v l.length :=
  ⟨_, h, fun j hj => ⟨l[j], ints_at (List.getElem?_eq_getElem hj)⟩, Chg.refl _ _⟩
theorem Scr.form {w0 wr : World} {v : Value} {m k : Nat} (h : Scr w0 wr v m) (hk : k < m) : ∃ gg cap x, v = .slice (some ⟨gg, 0, none⟩) m cap ∧ wr.cell? ⟨gg, k, none⟩ = some (.int .i64 x) ∧ wr.frozen? ⟨gg, k, none⟩ = false := by
  obtain ⟨vs, hr, hi, hc⟩ := h
  obtain ⟨gg, cap, rfl, _, _, hcell, hfz, _⟩ := hr.form (by omega)
  obtain ⟨x, hx⟩ := hi k hk
  exact ⟨gg, cap, x, rfl, hcell k _ hx, hfz k⟩
theorem Scr.step {w0 wr : World} {gg cap m k : Nat} (h : Scr w0 wr (.slice (some ⟨gg, 0, none⟩) m cap) m) (hk : k < m) (y : Int) : Scr w0 (wr.setCell ⟨gg, k, none⟩ (.int .i64 y)) (.slice (some ⟨gg, 0, none⟩) m cap) m := by
  obtain ⟨vs, hr, hi, hc⟩ := h
  refine ⟨_, hr.set_ (j := k) (by omega) (.int .i64 y), fun j hj => ?_, hc.setCell (p := ⟨gg, k, none⟩) (.inl (by simp [foot_some])) _⟩
  have hl := hr.1
  by_cases e : j = k
  · subst e
    exact ⟨y, List.getElem?_set_self (by omega)⟩
  · obtain ⟨x, hx⟩ := hi j hj
    exact ⟨x, by rw [List.getElem?_set_ne (fun e' => e e'.symm)]; exact hx⟩
section
variable {w w1 w2 : World} {g h r M : Nat} {S : List Nat} {N : Int} {L L' K K' : List Int}
theorem Two.stepScr {wa w3 w4 : World} {v : Value} {l : List Int} (H : Two w g h r S M N L K) (ha : Chg [] w wa) (hT : Took wa w1 g h M v l L') (hR : RTurns r S N K' w1 w2) (hc : Chg [] w2 w3) (hs : Chg (foot v) w3 w4) : Does g h r S M N L' K' w w4 := by
  obtain ⟨hRing, hRow, hfr, h1⟩ := hT
  have z0 := ha.size
  have z1 := h1.size
  have hlt := hRow.lt
  have hT1 := (H.quiet ha).ringTurns hRing h1
  obtain ⟨S', h4, h5⟩ := hT1.refTurns hR
  obtain ⟨_, _, _, h6⟩ := hR
  have h7 := h4.quiet hc
  have hlS := H.ref.lt
  have hlg := H.ring.lt
  have z2 := h6.size
  have z3 := hc.size
  refine ⟨S', ⟨h7.ring.chg hs fun k hk hm => ?_, h7.ref.chg hs fun k hk hm => ?_, h7.apart⟩, fun k hk => (h5 k hk).imp id (fun h9 => by omega), ?_⟩
  · have := hfr k hm; have := hlg k hk; omega
  · have := hfr k hm
    rcases h5 k hk with h9 | h9
    · have := hlS k h9; omega
    · have := hlt k hm; omega
  · have e1 : Chg [g, h, r] w w1 := (Chg.any ha).trans h1 (fun k hk => .inl (by simp at hk ⊢; rcases hk with h9 | h9 <;> simp [h9]))
    exact ((e1.trans h6 (fun k hk => .inl (by simp at hk ⊢; simp [hk]))).then hc).trans hs (fun k hk => .inr (by have := hfr k hk; omega))
set_option maxRecDepth 100000 in
set_option maxHeartbeats 1600000 in
theorem do3 (H : Two w g h r S M N L K) (hK : K.length ≤ 8192) (n : Int) (n0 : -9223372036854775808 ≤ n) (n1 : n ≤ 9223372036854775807) :
    Calls Try.prog 10 #[.pointer (some ⟨g, 0, none⟩), .pointer (some ⟨r, 0, none⟩), .agg #[.int .i64 3, .int .i64 n]] w fun e w' => Told (L = K) e ∧ Does g h r S M N (L.drop n.toNat) (K.drop n.toNat) w w' := by
  have hbG : w.heap.size ∉ [g, h] := fun hm => by have := H.ring.lt _ hm; omega
  have HG := Lib.hid hbG
  have hL : L.length ≤ 8192 := by have := H.ring.small; omega
  have hrlt : r < w.heap.size := H.ref.lt _ H.ref.mem
  have HX := fun W (h' : RingAt W g h M L) => take_any h' n n0 n1
  have HY := fun W (h' : RefAt W r S N K) => rtake_any h' n n0 n1 hK
  have HR1 := Lib.hid (fun wa w1 (ha : Chg [] w wa) (hR : RingAt w1 g h M (L.drop n.toNat)) (h1 : Chg [g, h] wa w1) => ((H.quiet ha).ringTurns hR h1).ref)
  obtain ⟨l1, hl1⟩ : ∃ l, l = L.take n.toNat := ⟨_, rfl⟩
  obtain ⟨l2, hl2⟩ : ∃ l, l = K.take n.toNat := ⟨_, rfl⟩
  have m1 : l1.length ≤ 8192 := by rw [hl1, List.length_take]; omega
  have m2 : l2.length ≤ 8192 := by rw [hl2, List.length_take]; omega
  have HZ := fun W v1 v2 (h1 : Rd W v1 l1) (h2 : Rd W v2 l2) => rsame_any h1 h2 m1 m2
  rw [← hl1] at HX
  rw [← hl2] at HY
  have HE := Lib.hid (show L = K → l1 = l2 by rintro rfl; rw [hl1, hl2])
  have HRL := Lib.hid hrlt
  clear hbG hl1 hl2 hL hrlt m2
  by_cases hb : l1 = l2
  · have hbb : (l1 == l2) = true := by simpa using hb
    rw [hbb] at HZ
    clear hb hbb
    go_enter Try.func10, Try.ntmps10
    go_wp2_with (first
      | (go_at_call 15; refine (HX _ (H.ring.quiet ((Chg.refl _ _).alloc _))).mono ?_; rintro e w1 ⟨v, rfl, hT⟩; obtain ⟨A1, c1, rfl, _⟩ := hT.2.1.val; have b5 := (Blk.new w 34 #[.int .i64 3, .int .i64 n]).chg hT.2.2.2 HG.out; have k1 := b5.cell 1; have HT := Lib.hid hT; clear hT b5)
      | (go_at_call 24; refine (HY _ (HR1.out _ _ ((Chg.refl _ _).alloc _) HT.out.1 HT.out.2.2.2)).mono ?_; rintro e w2 ⟨v, rfl, hR⟩; have hf : ∀ k ∈ foot (.slice A1 l1.length c1), k ∉ [r] := (fun k hk hm => by have t1 := HT.out.2.2.1 k hk; have t2 := HRL.out; simp at hm t1; omega); obtain ⟨_, _, _, hc2⟩ := id hR.turns; have hrow := HT.out.2.1.chg hc2 hf; have HROW := Lib.hid hrow; have HR := Lib.hid hR; clear hrow hR hf hc2)
      | (go_at_call 16; refine (HZ _ _ _ (Rd.of_row HROW.out) HR.out.1).mono ?_; rintro e w3 ⟨rfl, hc⟩; have HS := Lib.hid (Scr.start (HROW.out.chg hc (fun _ _ h => by cases h))); have HC := Lib.hid hc; clear hc))
    obtain ⟨m, hm⟩ : ∃ m, m = l1.length := ⟨_, rfl⟩
    rw [← hm] at HS HT ⊢
    clear HX HY HZ k1 HROW
    have hm63 : m ≤ 8192 := by omega
    go_loopw [11] (fun i wr => ∃ k : Nat, k ≤ m ∧ i = .int .i64 k ∧ Hid (Scr w3 wr (.slice A1 m c1) m)) (fun i _ => m - (intOf i).toNat)
    case atStart => exact ⟨0, Nat.zero_le _, rfl, HS⟩
    case round =>
      obtain ⟨k, hk, rfl, hs⟩ := hrel
      by_cases hlt : k < m
      · obtain ⟨gg, cap, x, hv, q0, q1⟩ := hs.out.form hlt
        simp only [Value.slice.injEq] at hv
        obtain ⟨rfl, _, rfl⟩ := hv
        have HN := Lib.hid (fun y => hs.out.step hlt y)
        have i0 : (0 : Int) ≤ (k : Int) := by omega
        have i1 : (k : Int) < (m : Int) := by omega
        clear hs
        go_wp2
        go_roundw
        case rel => exact ⟨k + 1, by omega, by go_num, Lib.hid (HN.out _)⟩
        case measure => simp [intOf]; omega
      · obtain rfl : k = m := by omega
        obtain ⟨vs, _, _, hcs⟩ := hs.out
        have HCS := Lib.hid hcs
        clear hs hcs
        go_wp2
        go_ret
        exact ⟨⟨true, rfl, fun _ => rfl⟩, H.stepScr ((Chg.refl _ _).alloc _) HT.out HR.out.turns HC.out HCS.out⟩
  · have hbb : (l1 == l2) = false := by simpa using hb
    rw [hbb] at HZ
    have HNE := Lib.hid hb
    clear hb hbb
    go_enter Try.func10, Try.ntmps10
    go_wp2_with (first
      | (go_at_call 15; refine (HX _ (H.ring.quiet ((Chg.refl _ _).alloc _))).mono ?_; rintro e w1 ⟨v, rfl, hT⟩; obtain ⟨A1, c1, rfl, _⟩ := hT.2.1.val; have b5 := (Blk.new w 34 #[.int .i64 3, .int .i64 n]).chg hT.2.2.2 HG.out; have k1 := b5.cell 1; have HT := Lib.hid hT; clear hT b5)
      | (go_at_call 24; refine (HY _ (HR1.out _ _ ((Chg.refl _ _).alloc _) HT.out.1 HT.out.2.2.2)).mono ?_; rintro e w2 ⟨v, rfl, hR⟩; have hf : ∀ k ∈ foot (.slice A1 l1.length c1), k ∉ [r] := (fun k hk hm => by have t1 := HT.out.2.2.1 k hk; have t2 := HRL.out; simp at hm t1; omega); obtain ⟨_, _, _, hc2⟩ := id hR.turns; have hrow := HT.out.2.1.chg hc2 hf; have HROW := Lib.hid hrow; have HR := Lib.hid hR; clear hrow hR hf hc2)
      | (go_at_call 16; refine (HZ _ _ _ (Rd.of_row HROW.out) HR.out.1).mono ?_; rintro e w3 ⟨rfl, hc⟩; have HC := Lib.hid hc; clear hc))
    go_ret
    exact ⟨⟨_, rfl, fun e => absurd (HE.out e) HNE.out⟩, H.stepScr ((Chg.refl _ _).alloc _) HT.out HR.out.turns HC.out (Chg.refl _ _)⟩
end
end Go.Proofs
