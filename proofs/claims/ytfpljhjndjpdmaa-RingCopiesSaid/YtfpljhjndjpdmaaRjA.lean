import Derived.Test.YtfpljhjndjpdmaaRiV
namespace Go.Proofs
open Go.RowKit
set_option linter.unusedVariables false

section
variable {w0 w w1 : World} {g h r g' h' r' M : Nat} {S S' : List Nat} {N : Int} {L K : List Int}
theorem Two.chg {T : List Nat} (H : Two w g h r S M N L K) (hc : Chg T w w1) (hT : ∀ k ∈ [g, h] ++ S, k ∉ T) : Two w1 g h r S M N L K :=
  ⟨H.ring.chg hc (fun k hk => hT k (List.mem_append_left _ hk)), H.ref.chg hc (fun k hk => hT k (List.mem_append_right _ hk)), H.apart⟩
theorem Two.lt (H : Two w g h r S M N L K) : ∀ k ∈ [g, h] ++ S, k < w.heap.size := fun k hk => by
  rcases List.mem_append.1 hk with h9 | h9
  · exact H.ring.lt k h9
  · exact H.ref.lt k h9
/-- Two rings and the document's, each apart from all others. -/
def Pair (w0 w : World) (g h r g' h' r' M : Nat) : Prop :=
  ∃ S S' L L', Two w g h r S M M L L ∧ Two w g' h' r' S' M M L' L' ∧ (∀ k ∈ [g, h] ++ S, k ∉ [g', h'] ++ S') ∧ (∀ k ∈ [g, h] ++ S, w0.heap.size ≤ k) ∧ (∀ k ∈ [g', h'] ++ S', w0.heap.size ≤ k) ∧ Chg [] w0 w
theorem Pair.swap (H : Pair w0 w g h r g' h' r' M) : Pair w0 w g' h' r' g h r M := by
  obtain ⟨S, S', L, L', h1, h2, h3, h4, h5, h6⟩ := H
  exact ⟨S', S, L', L, h2, h1, fun k hk hm => h3 k hm hk, h5, h4, h6⟩
theorem Pair.quiet (H : Pair w0 w g h r g' h' r' M) (hc : Chg [] w w1) : Pair w0 w1 g h r g' h' r' M := by
  obtain ⟨S, S', L, L', h1, h2, h3, h4, h5, h6⟩ := H
  exact ⟨S, S', L, L', h1.quiet hc, h2.quiet hc, h3, h4, h5, h6.then hc⟩
theorem Pair.chg0 (H : Pair w0 w g h r g' h' r' M) : Chg [] w0 w := by
  obtain ⟨S, S', L, L', h1, h2, h3, h4, h5, h6⟩ := H
  exact h6
theorem Pair.does (H : Pair w0 w g h r g' h' r' M) (k n : Int) (n0 : -9223372036854775808 ≤ n) (n1 : n ≤ 9223372036854775807) :
    Calls Try.prog 10 #[.pointer (some ⟨g, 0, none⟩), .pointer (some ⟨r, 0, none⟩), .agg #[.int .i64 k, .int .i64 n]] w fun e w' => e = .returned (.bool true) ∧ Pair w0 w' g h r g' h' r' M := by
  obtain ⟨S, S', L, L', h1, h2, h3, h4, h5, h6⟩ := H
  have hr := h1.ref.mem
  have hlt := h2.lt
  have hz := h6.size
  refine (do_any h1 (by have := h1.ring.small; omega) k n n0 n1).mono ?_
  rintro e w' ⟨⟨v, he, hv⟩, S1, k1, k2, k3⟩
  have hin : ∀ j ∈ [g, h, r], j ∈ [g, h] ++ S := fun j hj => by
    simp at hj ⊢
    rcases hj with rfl | rfl | rfl
    · exact .inl rfl
    · exact .inr (.inl rfl)
    · exact .inr (.inr hr)
  refine ⟨by rw [he, hv ⟨rfl, rfl⟩], S1, S', _, L', k1, h2.chg k3 (fun j hj hm => h3 j (hin j hm) hj), fun j hj hm => ?_, fun j hj => ?_, h5, h6.trans k3 (fun j hj => .inr (h4 j (hin j hj)))⟩
  · rcases List.mem_append.1 hj with h9 | h9
    · exact h3 j (List.mem_append_left _ h9) hm
    · rcases k2 j h9 with h8 | h8
      · exact h3 j (List.mem_append_right _ h8) hm
      · have := hlt j hm; omega
  · rcases List.mem_append.1 hj with h9 | h9
    · exact h4 j (List.mem_append_left _ h9)
    · rcases k2 j h9 with h8 | h8
      · exact h4 j (List.mem_append_right _ h8)
      · omega
/-- A copy of both. -/
theorem Pair.make {w2 w3 : World} {A : Option Addr} {n c : Nat} (H : Two w g h r S M M L L) (hg : ∀ k ∈ [g, h, r], w0.heap.size ≤ k) (hS : ∀ k ∈ S, w0.heap.size ≤ k) (h0 : Chg [] w0 w) (hC : Made M L g' h' w w2)
    (hr : Row w3 3 1 (.slice A n c) L.length (ints L)) (hf : ∀ k ∈ foot (.slice A n c), w2.heap.size ≤ k) (hc : Chg [] w2 w3) :
    Pair w0 (w3.alloc (.cells #[.slice A n c, .int .i64 (M : Nat)] 31)) g h r g' h' w3.heap.size M := by
  obtain ⟨c1, c2, c3, c4⟩ := hC
  have z0 := h0.size
  have z1 := c4.size
  have z2 := hc.size
  have hlt := H.lt
  have hl2 := c1.lt
  have hcc : Chg [] w (w3.alloc (.cells #[.slice A n c, .int .i64 (M : Nat)] 31)) := (c4.then hc).alloc _
  have hnew : ∀ k ∈ [g', h'] ++ (w3.heap.size :: foot (.slice A n c)), w.heap.size ≤ k := fun k hk => by
    simp at hk
    rcases hk with rfl | rfl | rfl | h9
    · exact c2
    · exact c3
    · omega
    · have := hf k h9; omega
  refine ⟨S, w3.heap.size :: foot (.slice A n c), L, L, H.quiet hcc, ⟨(c1.quiet hc).quiet ((Chg.refl _ _).alloc _), ⟨.slice A n c, Blk.new w3 31 _, (Rd.of_row hr).quiet ((Chg.refl _ _).alloc _), rfl⟩, fun k hk hm => ?_⟩, fun k hk hm => ?_, fun k hk => ?_, fun k hk => by have := hnew k hk; omega, h0.then hcc⟩
  · have q1 := hl2 k hk
    simp at hm
    rcases hm with h9 | h9
    · omega
    · have := hf k h9; omega
  · have q1 := hlt k hk
    have q2 := hnew k hm
    omega
  · rcases List.mem_append.1 hk with h9 | h9
    · exact hg k (by simp at h9 ⊢; rcases h9 with h8 | h8 <;> simp [h8])
    · exact hS k h9
end
theorem rings_same {w : World} {g h g' h' M : Nat} {L L' : List Int} (H : RingAt w g h M L) (H' : RingAt w g' h' M L') :
    Calls Try.prog 18 #[.pointer (some ⟨g, 0, none⟩), .pointer (some ⟨g', 0, none⟩)] w fun e w' => e = .returned (.bool (L == L')) ∧ Chg [] w w' :=
  same_yes (by have := H.small; omega) (by have := H'.small; omega) H.has H'.has H.room H'.room
theorem rings_self {w : World} {g h g' h' M : Nat} {L : List Int} (H : RingAt w g h M L) (H' : RingAt w g' h' M L) :
    Calls Try.prog 18 #[.pointer (some ⟨g, 0, none⟩), .pointer (some ⟨g', 0, none⟩)] w fun e w' => e = .returned (.bool true) ∧ Chg [] w w' := by
  have := rings_same H H'
  rwa [beq_self_eq_true] at this
set_option maxRecDepth 100000 in
set_option maxHeartbeats 6400000 in
theorem copies_any (most : Int) (V1 V2 V3 : Value) (l a b : List ActV) (w : World) (hV1 : Acts w V1 l) (hV2 : Acts w V2 a) (hV3 : Acts w V3 b) :
    Calls Try.prog 5 #[.int .i64 most, V1, V2, V3] w fun e w' => e = .returned (.bool true) ∧ Chg [] w w' := by
  obtain ⟨A1, c1, rfl, hcell1⟩ := hV1
  obtain ⟨A2, c2, rfl, hcell2⟩ := hV2
  obtain ⟨A3, c3, rfl, hcell3⟩ := hV3
  have HC1 := Lib.hid hcell1
  have HC2 := Lib.hid hcell2
  have HC3 := Lib.hid hcell3
  obtain ⟨m1, hm1⟩ : ∃ m, m = l.length := ⟨_, rfl⟩
  obtain ⟨m2, hm2⟩ : ∃ m, m = a.length := ⟨_, rfl⟩
  obtain ⟨m3, hm3⟩ : ∃ m, m = b.length := ⟨_, rfl⟩
  rw [← hm1, ← hm2, ← hm3]
  have HM1 := Lib.hid hm1
  have HM2 := Lib.hid hm2
  have HM3 := Lib.hid hm3
  clear hcell1 hcell2 hcell3 hm1 hm2 hm3
  by_cases hm : most < 1 ∨ 4096 < most
  · have HN := new_no most w hm
    clear hm
    go_enter Try.func5, Try.ntmps5
    go_wp2_with (first
      | (go_at_call 8; refine HN.mono ?_; rintro e w' ⟨rfl, rfl⟩)
      | (go_at_call 9; refine (known_any _).mono ?_; rintro e w1 ⟨rfl, hc⟩))
    go_ret
    exact ⟨rfl, hc⟩
  · obtain ⟨M, rfl⟩ := Int.eq_ofNat_of_zero_le (by omega : 0 ≤ most)
    have HN := new_ok M w (by omega) (by omega)
    clear hm
    by_cases hlong : 100 < m1 ∨ 50 < m2 ∨ 50 < m3
    · have hd : (decide (100 < (m1 : Int)) || decide (50 < (m2 : Int)) || decide (50 < (m3 : Int))) = true := by
        rcases hlong with h9 | h9 | h9
        · simp; omega
        · simp; omega
        · simp; omega
      by_cases q1 : 100 < m1
      · go_enter Try.func5, Try.ntmps5
        go_wp2_with (first
          | (go_at_call 8; refine HN.mono ?_; rintro e w1 ⟨g, h, rfl, hM⟩; have H1 := Lib.hid hM; clear hM)
          | (go_at_call 9; refine (known_any _).mono ?_; rintro e w2 ⟨rfl, hc⟩))
        go_ret
        exact ⟨rfl, H1.out.2.2.2.then hc⟩
      · by_cases q2 : 50 < m2
        · go_enter Try.func5, Try.ntmps5
          go_wp2_with (first
            | (go_at_call 8; refine HN.mono ?_; rintro e w1 ⟨g, h, rfl, hM⟩; have H1 := Lib.hid hM; clear hM)
            | (go_at_call 9; refine (known_any _).mono ?_; rintro e w2 ⟨rfl, hc⟩))
          go_ret
          exact ⟨rfl, H1.out.2.2.2.then hc⟩
        · have q3 : 50 < m3 := by omega
          go_enter Try.func5, Try.ntmps5
          go_wp2_with (first
            | (go_at_call 8; refine HN.mono ?_; rintro e w1 ⟨g, h, rfl, hM⟩; have H1 := Lib.hid hM; clear hM)
            | (go_at_call 9; refine (known_any _).mono ?_; rintro e w2 ⟨rfl, hc⟩))
          go_ret
          exact ⟨rfl, H1.out.2.2.2.then hc⟩
    · have b1 : decide (100 < (m1 : Int)) = false := by simp; omega
      have b2 : decide (50 < (m2 : Int)) = false := by simp; omega
      have b3 : decide (50 < (m3 : Int)) = false := by simp; omega
      have hs1 : m1 ≤ 100 := by omega
      have hs2 : m2 ≤ 50 := by omega
      have hs3 : m3 ≤ 50 := by omega
      clear hlong
      go_enter Try.func5, Try.ntmps5
      go_wp2_with (go_at_call 8; refine HN.mono ?_; rintro e w1 ⟨g, h, rfl, hM⟩; have H1 := Lib.hid hM; clear hM)
      have HB := Lib.hid (Between.new H1.out)
      generalize hr : w1.heap.size = r at HB ⊢
      clear hr
      go_loopw [12] (fun i wr => ∃ k : Nat, k ≤ m1 ∧ i = .int .i64 k ∧ Hid (Between w g h r M wr)) (fun i wr => m1 - (intOf i).toNat)
      case atStart => exact ⟨0, Nat.zero_le _, rfl, HB⟩
      case round =>
        obtain ⟨k, hk, rfl, hB⟩ := hrel
        by_cases hlt : k < m1
        · obtain ⟨a, ha⟩ : ∃ a, l[k]? = some a := ⟨_, List.getElem?_eq_getElem (by rw [← HM1.out]; exact hlt)⟩
          obtain ⟨b, off, rfl, hb, hfit, p0, p1⟩ := HC1.out k a ha
          obtain ⟨S, L, q1, q2, q3, q4⟩ := hB.out
          have d0 := (q4.cell (p := ⟨b, off + k * 2, none⟩) hb (by simp)).trans p0
          have d1 := (q4.cell (p := ⟨b, off + k * 2 + 1, none⟩) hb (by simp)).trans p1
          have i0 : (0 : Int) ≤ (k : Int) := by omega
          have i1 : (k : Int) < (m1 : Int) := by omega
          have HD := hB.out.does a.kind a.n hfit.n0 hfit.n1
          clear q1 q2 q3 q4 p0 p1 ha hB hfit
          obtain ⟨a1, a2⟩ := a
          simp only at d0 d1 HD
          go_wp2_with (go_at_call 10; refine HD.mono ?_; rintro e w4 ⟨rfl, hB2⟩; have HB2 := Lib.hid hB2; clear hB2)
          go_roundw
          case rel => exact ⟨k + 1, by omega, by go_num, HB2⟩
          case measure => simp [intOf]; omega
        · obtain rfl : k = m1 := by omega
          obtain ⟨S, L, q1, q2, q3, q4⟩ := hB.out
          have Q1 := Lib.hid q1
          have Q2 := Lib.hid q2
          have Q3 := Lib.hid q3
          have Q4 := Lib.hid q4
          have hcp := copy_any q1.ring
          obtain ⟨VL, hBR, hRd, hS⟩ := q1.ref
          obtain ⟨A, c, rfl, _⟩ := hRd.open_
          obtain ⟨n, hn⟩ : ∃ n, n = L.length := ⟨_, rfl⟩
          have hn8 : n ≤ 4096 := by have := q1.ring.small; omega
          have r0 := hBR.cell 0
          have lr := hBR.lt
          rw [← hn] at r0 hRd
          have HRd := Lib.hid hRd
          have HNN := Lib.hid hn
          clear q1 q2 q3 q4 hBR hRd hS hn hB
          go_wp2_with (first
            | (go_at_call 17; refine hcp.mono ?_; rintro e w2 ⟨g', h', rfl, hC⟩; have HC := Lib.hid hC; have e0 := (hC.2.2.2.cell (p := ⟨r, 0, none⟩) lr (by simp)).trans r0; clear hC)
            | (at_builtin; refine wpList_append_rs (xs := []) (n := n) _ rfl _ _ rfl (by rfl) (by rfl) (Row.nil _ _ _) (HRd.out.quiet HC.out.2.2.2) (by have := HNN.out; simp only [List.length_nil]; omega) (by have := HNN.out; simp only [List.length_nil]; omega) ?_; intro A4 c4 w3 hr4 hg4 hf4; simp only [List.nil_append] at hr4; have HR4 := Lib.hid hr4; have HC4 := Lib.hid (show Chg [] w2 w3 from (Chg.refl _ _).grown hg4 (fun k hk => by cases hk)); have HF4 := Lib.hid (show ∀ k ∈ foot (.slice A4 n c4), w2.heap.size ≤ k from fun k hk => (hf4 k hk).elim (fun h => by cases h) (fun h => h)); clear hr4 hg4 hf4)
            | (go_at_call 18; refine (rings_self (Q1.out.ring.quiet ((HC.out.2.2.2.then HC4.out).alloc _)) (HC.out.ring.quiet (HC4.out.alloc _))).mono ?_; rintro e w5 ⟨rfl, hc⟩; have HP := Lib.hid ((Pair.make Q1.out Q2.out Q3.out Q4.out HC.out HR4.out HF4.out HC4.out).quiet hc); clear hc))
          generalize hr' : w3.heap.size = r' at HP ⊢
          clear hr' hcp
          go_loopw [15] (fun i wr => ∃ q : Nat, q ≤ m2 ∧ i = .int .i64 q ∧ Hid (Pair w wr g h r g' h' r' M)) (fun i wr => m2 - (intOf i).toNat)
          case atStart => exact ⟨0, Nat.zero_le _, rfl, HP⟩
          case round =>
            clear HP
            obtain ⟨q, hq, rfl, HP⟩ := hrel
            by_cases hlta : q < m2
            · obtain ⟨aa, ha⟩ : ∃ a', a[q]? = some a' := ⟨_, List.getElem?_eq_getElem (by rw [← HM2.out]; exact hlta)⟩
              obtain ⟨bo, off, rfl, hb, hfit, p0, p1⟩ := HC2.out q aa ha
              have hc0 := HP.out.chg0
              have d0 := (hc0.cell (p := ⟨bo, off + q * 2, none⟩) hb (by simp)).trans p0
              have d1 := (hc0.cell (p := ⟨bo, off + q * 2 + 1, none⟩) hb (by simp)).trans p1
              have i0 : (0 : Int) ≤ (q : Int) := by omega
              have i1 : (q : Int) < (m2 : Int) := by omega
              have HD := HP.out.does aa.kind aa.n hfit.n0 hfit.n1
              clear hc0 p0 p1 ha hfit HP
              obtain ⟨a1, a2⟩ := aa
              simp only at d0 d1 HD
              go_wp2_with (go_at_call 10; refine HD.mono ?_; rintro e w4 ⟨rfl, hB2⟩; have HP := Lib.hid hB2; clear hB2)
              go_roundw
              case rel => exact ⟨q + 1, by omega, by go_num, HP⟩
              case measure => simp [intOf]; omega
            · obtain rfl : q = m2 := by omega
              clear hlta
              go_wp2
              go_loopw [16] (fun i wr => ∃ q : Nat, q ≤ m3 ∧ i = .int .i64 q ∧ Hid (Pair w wr g h r g' h' r' M)) (fun i wr => m3 - (intOf i).toNat)
              case atStart => exact ⟨0, Nat.zero_le _, rfl, HP⟩
              case round =>
                clear HP
                obtain ⟨q, hq, rfl, HP⟩ := hrel
                by_cases hltb : q < m3
                · obtain ⟨aa, ha⟩ : ∃ a', b[q]? = some a' := ⟨_, List.getElem?_eq_getElem (by rw [← HM3.out]; exact hltb)⟩
                  obtain ⟨bo, off, rfl, hb, hfit, p0, p1⟩ := HC3.out q aa ha
                  have hc0 := HP.out.chg0
                  have d0 := (hc0.cell (p := ⟨bo, off + q * 2, none⟩) hb (by simp)).trans p0
                  have d1 := (hc0.cell (p := ⟨bo, off + q * 2 + 1, none⟩) hb (by simp)).trans p1
                  have i0 : (0 : Int) ≤ (q : Int) := by omega
                  have i1 : (q : Int) < (m3 : Int) := by omega
                  have HD := HP.out.swap.does aa.kind aa.n hfit.n0 hfit.n1
                  clear hc0 p0 p1 ha hfit HP
                  obtain ⟨a1, a2⟩ := aa
                  simp only at d0 d1 HD
                  go_wp2_with (go_at_call 10; refine HD.mono ?_; rintro e w4 ⟨rfl, hB2⟩; have HP := Lib.hid hB2; clear hB2)
                  go_roundw
                  case rel => exact ⟨q + 1, by omega, by go_num, Lib.hid HP.out.swap⟩
                  case measure => simp [intOf]; omega
                · obtain rfl : q = m3 := by omega
                  obtain ⟨S1, S2, L1, L2, t1, t2, _, _, _, t6⟩ := HP.out
                  have T1 := Lib.hid t1
                  have T2 := Lib.hid t2
                  have T6 := Lib.hid t6
                  obtain ⟨VL1, hB1, hRd1, _⟩ := t1.ref
                  obtain ⟨VL2, hB2, hRd2, _⟩ := t2.ref
                  obtain ⟨X1, y1, rfl, _⟩ := hRd1.open_
                  obtain ⟨X2, y2, rfl, _⟩ := hRd2.open_
                  have k1 := hB1.cell 0
                  have k2 := hB2.cell 0
                  have lr1 := hB1.lt
                  have lr2 := hB2.lt
                  have RD1 := Lib.hid hRd1
                  have RD2 := Lib.hid hRd2
                  have n1 : L1.length ≤ 8192 := by have := t1.ring.small; omega
                  have n2 : L2.length ≤ 8192 := by have := t2.ring.small; omega
                  have hsm := fun W (hW : Chg [] wr W) => rings_same (T1.out.ring.quiet hW) (T2.out.ring.quiet hW)
                  have hs1 : ∀ W, Chg [] wr W → Calls Try.prog 11 #[.pointer (some ⟨g, 0, none⟩), .pointer (some ⟨r, 0, none⟩)] W fun e w' => e = .returned (.bool true) ∧ Chg [] W w' := fun W hW => same_any (T1.out.quiet hW) rfl
                  have hs2 : ∀ W, Chg [] wr W → Calls Try.prog 11 #[.pointer (some ⟨g', 0, none⟩), .pointer (some ⟨r', 0, none⟩)] W fun e w' => e = .returned (.bool true) ∧ Chg [] W w' := fun W hW => same_any (T2.out.quiet hW) rfl
                  have hrs := fun W (hW : Chg [] wr W) => rsame_any (RD1.out.quiet hW) (RD2.out.quiet hW) n1 n2
                  obtain ⟨B, hB⟩ : ∃ B, B = (L1 == L2) := ⟨_, rfl⟩
                  rw [← hB] at hsm hrs
                  have hbb : (B == B) = true := by simp
                  have hk1 : ∀ W, Chg [] wr W → W.cell? ⟨r, 0, none⟩ = some (.slice X1 L1.length y1) := fun W hW => (hW.cell (p := ⟨r, 0, none⟩) lr1 (by simp)).trans k1
                  have hk2 : ∀ W, Chg [] wr W → W.cell? ⟨r', 0, none⟩ = some (.slice X2 L2.length y2) := fun W hW => (hW.cell (p := ⟨r', 0, none⟩) lr2 (by simp)).trans k2
                  have K1 := Lib.hid hk1
                  have K2 := Lib.hid hk2
                  clear t1 t2 t6 hB1 hB2 hRd1 hRd2 hB HP lr1 lr2 n1 n2 hk1 hk2
                  go_wp2
                  go_region_held3 (fun w' => w'.cell? ⟨r, 0, none⟩ = some (.slice X1 L1.length y1) ∧ w'.cell? ⟨r', 0, none⟩ = some (.slice X2 L2.length y2))
                    (first | go_keep)
                    (first
                      | (go_at_call 11; ((with_reducible refine (hs1 _ ((Chg.refl _ _).drew)).mono ?_); rintro e w6 ⟨rfl, hc⟩); have H6 := Lib.hid (((Chg.refl [] _).drew).then hc); have f1 := K1.out _ H6.out; have f2 := K2.out _ H6.out; clear hc)
                      | (go_at_call 11; ((with_reducible refine (hs2 _ H6.out).mono ?_); rintro e w7 ⟨rfl, hc⟩); have H7 := Lib.hid (H6.out.then hc); have g1 := K1.out _ H7.out; have g2 := K2.out _ H7.out; clear hc)
                      | (go_at_call 18; refine (hsm _ H7.out).mono ?_; rintro e w8 ⟨rfl, hc⟩; have H8 := Lib.hid (H7.out.then hc); have g3 := K1.out _ H8.out; have g4 := K2.out _ H8.out; clear hc)
                      | (go_at_call 16; refine (hrs _ H8.out).mono ?_; rintro e w9 ⟨rfl, hc⟩; have H9 := Lib.hid (H8.out.then hc); have g5 := K1.out _ H9.out; have g6 := K2.out _ H9.out; clear hc)
                      | (go_at_call 9; refine (known_any _).mono ?_; rintro e w10 ⟨rfl, hc⟩; have H10 := Lib.hid (H9.out.then hc); have g7 := K1.out _ H10.out; have g8 := K2.out _ H10.out; clear hc))
                  all_goals
                    go_wp2
                    go_ret
                    exact ⟨rfl, T6.out.then H10.out⟩
end Go.Proofs
