import Derived.Test.YtfbelpbfmafjdaaAc
import Derived.Test.YtfbelpbfmafjdaaArK
namespace Go.Proofs
open Go.RowKit
set_option linter.unusedVariables false

/-- The slice V reads in w as these acts; its cells lie below block B. -/
def Acts (w : World) (B : Nat) (V : Value) (l : List ActV) : Prop :=
  ∃ A c, V = .slice A l.length c ∧ ∀ (k : Nat) (a : ActV), l[k]? = some a → ∃ b off, A = some ⟨b, off, none⟩ ∧ b < B ∧ a.Fits ∧ w.cell? ⟨b, off + k * 5, none⟩ = some (.int .i64 a.kind) ∧ w.cell? ⟨b, off + k * 5 + 1, none⟩ = some (.int .i64 a.x) ∧
    w.cell? ⟨b, off + k * 5 + 2, none⟩ = some (.int .i64 a.i) ∧ w.cell? ⟨b, off + k * 5 + 3, none⟩ = some (.int .u64 a.q) ∧ w.cell? ⟨b, off + k * 5 + 4, none⟩ = some (.int .i64 a.n)
def muchB (size : Int) (n : Nat) (most : Int) : Bool := (decide (40 < size) && decide (size ≤ 4096)) || decide (most < (n : Int))
theorem much_any (size most : Int) (A : Option Addr) (n c : Nat) (w : World) :
    Calls Try.prog 9 #[.int .i64 size, .slice A n c, .int .i64 most] w fun e w' => e = .returned (.bool (muchB size n most)) ∧ w = w' := by
  unfold muchB
  by_cases h1 : 40 < size
  · by_cases h2 : size ≤ 4096
    · rw [decide_eq_true h1, decide_eq_true h2]
      go_enter Try.func9, Try.ntmps9
      go_wp2
      go_ret
      exact ⟨rfl, rfl⟩
    · rw [decide_eq_true h1, decide_eq_false h2]
      have d2 : decide (size ≤ 4096) = false := by simpa using h2
      go_enter Try.func9, Try.ntmps9
      go_wp2
      go_ret
      exact ⟨by simp, rfl⟩
  · rw [decide_eq_false h1]
    go_enter Try.func9, Try.ntmps9
    go_wp2
    go_ret
    exact ⟨by simp, rfl⟩
theorem do_sim {w : World} {g h : Nat} {S R : List Nat} {t : Tab Int} {r : RTab} (H : Two w g h S R t r) (hw : t.WF) (hs : Sim t r) {T : Int} (hf : r.Fits T) (hT1 : T ≤ 1000000) (a : ActV) (ha : a.Fits) :
    Calls Try.prog 15 #[.pointer (some ⟨g, 0, none⟩), .pointer (some ⟨h, 0, none⟩), .agg #[.int .i64 a.kind, .int .i64 a.x, .int .i64 a.i, .int .u64 a.q, .int .i64 a.n]] w fun e w' => e = .returned (.bool true) ∧ Does g h S R (t.act a) (r.act a (t.atIdx a.n) (t.atGen a.n)) w w' :=
  (do_any H hw hf hT1 a ha).mono fun e w' ⟨⟨v, h1, h2⟩, h3⟩ => ⟨by rw [h1, h2 hs], h3⟩

/-- What holds between two acts. -/
def Between (w0 : World) (g h : Nat) (T : Int) (w : World) : Prop :=
  ∃ S R t r, Two w g h S R t r ∧ t.WF ∧ Sim t r ∧ r.Fits T ∧ (∀ k ∈ S, w0.heap.size ≤ k) ∧ (∀ k ∈ R, w0.heap.size ≤ k) ∧ Below w0.heap.size w0 w
theorem Between.quiet {w0 : World} {g h : Nat} {T : Int} {w w' : World} (H : Between w0 g h T w) (hc : Chg [] w w') : Between w0 g h T w' := by
  obtain ⟨S, R, t, r, h1, h2, h3, h4, h5, h6, h7⟩ := H
  exact ⟨S, R, t, r, h1.quiet hc, h2, h3, h4, h5, h6, h7.trans (hc.below (fun _ h => by cases h) h7.size)⟩
theorem Between.does {w0 : World} {g h : Nat} {T : Int} {w : World} (H : Between w0 g h T w) (hT : T ≤ 1000000) (a : ActV) (ha : a.Fits) :
    Calls Try.prog 15 #[.pointer (some ⟨g, 0, none⟩), .pointer (some ⟨h, 0, none⟩), .agg #[.int .i64 a.kind, .int .i64 a.x, .int .i64 a.i, .int .u64 a.q, .int .i64 a.n]] w fun e w' => e = .returned (.bool true) ∧ Between w0 g h (T + 1) w' := by
  obtain ⟨S, R, t, r, h1, h2, h3, h4, h5, h6, h7⟩ := H
  refine (do_sim h1 h2 h3 h4 hT a ha).mono ?_
  rintro e w' ⟨he, S', R', k1, k2, k3, k4⟩
  refine ⟨he, S', R', _, _, k1, h2.act a, h3.act h2 a, h4.act a _ _, sub_below h5 h7.size k2, sub_below h6 h7.size k3, h7.trans (k4.below (fun k hk => ?_) h7.size)⟩
  rcases List.mem_append.1 hk with h | h
  · exact h5 k h
  · exact h6 k h
theorem Between.same_ {w0 : World} {g h : Nat} {T : Int} {w : World} (H : Between w0 g h T w) :
    Calls Try.prog 14 #[.pointer (some ⟨g, 0, none⟩), .pointer (some ⟨h, 0, none⟩)] w fun e w' => e = .returned (.bool true) ∧ Between w0 g h T w' := by
  obtain ⟨S, R, t, r, h1, h2, h3, h⟩ := id H
  exact (same_any h1 h2 h3).mono fun e w' ⟨he, hc⟩ => ⟨he, H.quiet hc⟩
/-- Both are new. -/
theorem Between.new {w0 w1 w2 : World} {size : Nat} {first : Int} (h : mayT (size : Nat) first = true) (h1 : TabAt kI w1 w0.heap.size [w0.heap.size] ⟨(size : Nat), first, [], [], 0⟩) (hc1 : Chg [] w0 w1) (h2 : RMade ⟨newL first size, 0⟩ w1 w2) :
    Between w0 w0.heap.size w1.heap.size 0 w2 := by
  obtain ⟨a, b, c, d⟩ := mayT_iff.1 h
  obtain ⟨R, hR, hr, hc2⟩ := h2
  have z1 := hc1.size
  have l1 := h1.lt w0.heap.size (by simp)
  refine ⟨[w0.heap.size], R, _, _, ⟨h1.quiet hc2, hR, fun k hk hk' => ?_⟩, Tab.WF.new a b c d, Sim.new size first, ⟨by simp only [newL_len]; omega, by simp, by simp, fun k p hp => ?_⟩, by simp, fun k hk => by have := hr k hk; omega, ?_⟩
  · simp at hk; subst hk; have := hr _ hk'; omega
  · rw [topG_val] at d
    unfold newL at hp
    rw [List.getElem?_map, Option.map_eq_some_iff] at hp
    obtain ⟨i, _, rfl⟩ := hp
    show 0 ≤ first ∧ first ≤ _
    omega
  · exact (hc1.then hc2).below (fun _ h => by cases h) (Nat.le_refl _)

set_option maxRecDepth 100000 in
set_option maxHeartbeats 3200000 in
theorem plays_any (size first : Int) (f0 : 0 ≤ first) (V : Value) (l : List ActV) (w : World) (hV : Acts w w.heap.size V l) :
    Calls Try.prog 3 #[.int .i64 size, .int .u64 first, V] w fun e w' => e = .returned (.bool true) ∧ Below w.heap.size w w' := by
  obtain ⟨A, c, rfl, hcell⟩ := hV
  have HM := fun w' => much_any size 100 A l.length c w'
  have HCell := Lib.hid hcell
  clear hcell
  cases hm : muchB size l.length 100 with
  | true =>
    rw [hm] at HM
    clear hm
    go_enter Try.func3, Try.ntmps3
    go_wp2_with (first
      | (go_at_call 9; refine (HM _).mono ?_; rintro e w' ⟨rfl, rfl⟩)
      | (go_at_call 10; refine (known_any _).mono ?_; rintro e w1 ⟨rfl, hb⟩))
    go_ret
    exact ⟨rfl, hb⟩
  | false =>
    have hm' := hm
    rw [hm] at HM
    have hlen : l.length ≤ 100 := by
      unfold muchB at hm
      rw [Bool.or_eq_false_iff] at hm
      have := of_decide_eq_false hm.2
      omega
    clear hm hm'
    cases hmay : mayT size first with
    | false =>
      have HN := fun w' => new_no_I (w := w') size first f0 hmay
      have HY := fun w' => may_any size first f0 w'
      rw [hmay] at HY
      clear hmay
      go_enter Try.func3, Try.ntmps3
      go_wp2_with (first
        | (go_at_call 9; refine (HM _).mono ?_; rintro e w' ⟨rfl, rfl⟩)
        | (go_at_call 11; refine (HN _).mono ?_; rintro e w' ⟨rfl, rfl⟩)
        | (go_at_call 12; refine (HY _).mono ?_; rintro e w' ⟨rfl, rfl⟩)
        | (go_at_call 10; refine (known_any _).mono ?_; rintro e w1 ⟨rfl, hb⟩))
      go_ret
      exact ⟨rfl, hb⟩
    | true =>
      obtain ⟨a, b, _, _⟩ := mayT_iff.1 hmay
      obtain ⟨N, rfl⟩ := Int.eq_ofNat_of_zero_le (by omega : 0 ≤ size)
      have HN := fun w' => new_ok_I (w := w') (N : Nat) first hmay
      have HY := fun w' => may_any (N : Nat) first f0 w'
      rw [hmay] at HY
      have HR := fun w' => rnew_any N (by omega) first w'
      have HB := Lib.hid (fun (w1 w2 : World) => Between.new (w0 := w) (w1 := w1) (w2 := w2) hmay)
      obtain ⟨m, hmm⟩ : ∃ m, m = l.length := ⟨_, rfl⟩
      rw [← hmm] at HM hlen ⊢
      have HMM := Lib.hid hmm
      clear hmay hmm a b
      go_enter Try.func3, Try.ntmps3
      go_wp2_with (first
        | (go_at_call 9; refine (HM _).mono ?_; rintro e w' ⟨rfl, rfl⟩)
        | (go_at_call 11; refine (HN _).mono ?_; rintro e w1 ⟨rfl, hT, hc1⟩; have HT := Lib.hid hT; have HC := Lib.hid hc1; clear hT hc1)
        | (go_at_call 12; refine (HY _).mono ?_; rintro e w' ⟨rfl, rfl⟩)
        | (go_at_call 13; refine (HR _).mono ?_; rintro e w2 ⟨rfl, hR⟩; have hB0 := HB.out _ _ HT.out HC.out hR; clear hR)
        | (go_at_call 14; refine hB0.same_.mono ?_; rintro e w3 ⟨rfl, hB1⟩))
      clear HB HT HC HN HY HR
      clear hB0
      go_loopw [10] (fun i wr => ∃ k : Nat, k ≤ m ∧ i = .int .i64 k ∧ Between w w.heap.size w1.heap.size k wr) (fun i wr => m - (intOf i).toNat)
      case atStart => exact ⟨0, Nat.zero_le _, rfl, hB1⟩
      case round =>
        obtain ⟨k, hk, rfl, hB⟩ := hrel
        by_cases hlt : k < m
        · obtain ⟨a, ha⟩ : ∃ a, l[k]? = some a := ⟨_, List.getElem?_eq_getElem (by rw [← HMM.out]; exact hlt)⟩
          obtain ⟨b, off, rfl, hb, hfit, c0, c1, c2, c3, c4⟩ := HCell.out k a ha
          obtain ⟨S, R, t, r, h1, h2, h3, h4, h5, h6, h7⟩ := id hB
          have d0 := (h7.cell (p := ⟨b, off + k * 5, none⟩) hb).trans c0
          have d1 := (h7.cell (p := ⟨b, off + k * 5 + 1, none⟩) hb).trans c1
          have d2 := (h7.cell (p := ⟨b, off + k * 5 + 2, none⟩) hb).trans c2
          have d3 := (h7.cell (p := ⟨b, off + k * 5 + 3, none⟩) hb).trans c3
          have d4 := (h7.cell (p := ⟨b, off + k * 5 + 4, none⟩) hb).trans c4
          have i0 : (0 : Int) ≤ (k : Int) := by omega
          have i1 : (k : Int) < (m : Int) := by omega
          have HD := hB.does (by omega) a hfit
          clear h1 h2 h3 h4 h5 h6 h7 c0 c1 c2 c3 c4 ha hB hfit
          obtain ⟨a1, a2, a3, a4, a5⟩ := a
          simp only at d0 d1 d2 d3 d4 HD
          go_wp2_with (first
            | (go_at_call 15; refine HD.mono ?_; rintro e w4 ⟨rfl, hB2⟩)
            | (go_at_call 14; refine hB2.same_.mono ?_; rintro e w5 ⟨rfl, hB3⟩))
          go_roundw
          case rel => exact ⟨k + 1, by omega, by go_num, hB3⟩
          case measure => simp [intOf]; omega
        · obtain ⟨S, R, t, r, h1, h2, h3, h4, h5, h6, h7⟩ := id hB
          have HBel := Lib.hid h7
          clear h1 h2 h3 h4 h5 h6 h7 hB
          go_wp2_with (go_at_call 10; refine (known_any _).mono ?_; rintro e w4 ⟨rfl, hb⟩)
          go_ret
          exact ⟨rfl, HBel.out.trans (hb.mono HBel.out.size)⟩
end Go.Proofs
