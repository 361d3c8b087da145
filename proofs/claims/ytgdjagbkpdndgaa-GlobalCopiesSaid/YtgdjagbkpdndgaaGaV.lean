import Derived.Test.YtgdjagbkpdndgaaGaU
namespace Go.Proofs
open Go.RowKit
set_option linter.unusedVariables false

section
variable {w : World} {q r : Nat} {N : List (Nat × Int)} {S : List Nat}
set_option maxRecDepth 100000 in
set_option maxHeartbeats 3200000 in
theorem same_q (H : QAt w q N) (HR : RefAt w r S (nu N)) (hN : N.length ≤ 8000) :
    Calls Try.prog 12 #[.pointer (some ⟨q, 0, none⟩), .pointer (some ⟨r, 0, none⟩)] w fun e w' => e = .returned (.bool true) ∧ Chg [] w w' := by
  have hlen := nu_len N
  have hall := all_any (H.quiet ((Chg.refl [] w).drew)).rowed (by omega)
  have hln := fun W (hW : Chg [] w W) => len_any (H.quiet hW)
  rw [← hlen] at hln
  obtain ⟨V0, h1, h2, hS⟩ := id HR
  obtain ⟨A9, c9, rfl, _⟩ := h2.open_
  have hrc := fun W (hc : Chg [] w W) => (h1.chg hc (by simp)).cell 0
  simp only [List.getElem?_toArray, List.getElem?_cons_zero] at hrc
  have hl2 : (nu N).length ≤ 8192 := by omega
  obtain ⟨X, hX⟩ : ∃ X, X = nu N := ⟨_, rfl⟩
  rw [← hX] at hall hln hrc h2 hl2
  have hsame := fun W v1 (h1 : Rd W v1 X) (hW : Chg [] w W) => rsame_any h1 (h2.quiet hW) hl2 hl2
  simp only [beq_self_eq_true] at hsame
  obtain ⟨m, hm⟩ : ∃ m, m = X.length := ⟨_, rfl⟩
  rw [← hm] at hln hrc hsame
  have hmm : ((m : Int) == (m : Int)) = true := by simp
  have HRC := Lib.hid hrc
  have k0 := hrc _ ((Chg.refl [] w).drew)
  clear H HR hN hlen h1 h2 hS hX hm hl2 hrc
  go_enter Try.func12, Try.ntmps12
  go_wp2
  go_region_held3 (fun w' => w'.cell? ⟨r, 0, none⟩ = some (.slice A9 m c9))
    (first | go_keep)
    (first
      | (go_at_call 20; refine hall.mono ?_; rintro e w1 ⟨v, rfl, hf⟩; have HC := Lib.hid (((Chg.refl [] w).drew).then hf.2.2); have k1 := HRC.out _ HC.out; have HF := Lib.hid hf; clear hf)
      | (go_at_call 19; refine (hsame _ _ HF.out.rd HC.out).mono ?_; rintro e w2 ⟨rfl, hc⟩; have HC2 := Lib.hid (HC.out.then hc); have k2 := HRC.out _ HC2.out; clear hc)
      | (go_at_call 21; refine (hln _ HC2.out).mono ?_; rintro e w3 ⟨rfl, rfl⟩))
  all_goals
    go_wp2
    go_ret
    exact ⟨rfl, HC2.out⟩
end
theorem Rd.three (w : World) (x y z : Int) : Rd (w.alloc (.cells #[.int .i64 x, .int .i64 y, .int .i64 z] 3)) (.slice (some ⟨w.heap.size, 0, none⟩) 3 3) [x, y, z] :=
  ⟨_, 3, rfl, by simp, by unfold maxLen; omega, fun h => (by cases h), fun a ha => by
    cases ha
    refine ⟨_, 0, _, rfl, Blk.new w 3 _, by simp, fun j u hj => ?_⟩
    match j, hj with
    | 0, hj => simp at hj; simp [hj]
    | 1, hj => simp at hj; simp [hj]
    | 2, hj => simp at hj; simp [hj]⟩
theorem Bs.four (w : World) : Bs (w.alloc (.cells #[.int .u8 1, .int .u8 2, .int .u8 1, .int .u8 3] 5)) (.slice (some ⟨w.heap.size, 0, none⟩) 4 4) [1, 2, 1, 3] :=
  ⟨_, 4, rfl, fun k x hk => by
    refine ⟨_, 0, rfl, by simp, ?_⟩
    match k, hk with
    | 0, hk => simp at hk; subst hk; exact ⟨by omega, by omega, by simp⟩
    | 1, hk => simp at hk; subst hk; exact ⟨by omega, by omega, by simp⟩
    | 2, hk => simp at hk; subst hk; exact ⟨by omega, by omega, by simp⟩
    | 3, hk => simp at hk; subst hk; exact ⟨by omega, by omega, by simp⟩⟩
theorem Made.put {w w1 : World} {L l : List Int} {q : Nat} {v : Value} (H : Made L q w w1) (hR : Rd w1 v l) (hb : L.length + l.length ≤ 100000) :
    Calls Try.prog 22 #[.pointer (some ⟨q, 0, none⟩), v] w1 fun e w' => e = .returned (.tuple #[]) ∧ Made (L ++ l) q w w' := by
  obtain ⟨N, h1, rfl, h3, h4⟩ := H
  exact (put_any h1 hR (by rw [nu_len] at hb; exact hb)).mono fun e w' ⟨e1, e2⟩ => ⟨e1, Made.turn h3 h4 e2⟩
theorem Made.take {w w1 : World} {L : List Int} {q : Nat} {V : Value} {aff : List Int} (H : Made L q w w1) (hL : L.length ≤ 8192) (hV : Bs w1 V aff) (p : Int) :
    Calls Try.prog 15 #[.pointer (some ⟨q, 0, none⟩), .int .i64 p, V] w1 fun e w' => e = .returned (.tuple #[.int .i64 (tkV (mayP aff p) L), .bool (tkB (mayP aff p) L)]) ∧ Made (tkL (mayP aff p) L) q w w' := by
  obtain ⟨N, h1, rfl, h3, h4⟩ := H
  exact (take_any h1 (by rw [nu_len] at hL; omega) hV p).mono fun e w' ⟨e1, e2⟩ => ⟨e1, Made.turn h3 h4 e2⟩
theorem Made.len {w w1 : World} {L : List Int} {q : Nat} (H : Made L q w w1) : Calls Try.prog 21 #[.pointer (some ⟨q, 0, none⟩)] w1 fun e w' => e = .returned (.int .i64 (L.length : Nat)) ∧ w1 = w' := by
  obtain ⟨N, h1, rfl, h3, h4⟩ := H
  rw [nu_len]
  exact len_any h1
theorem Made.chg {w w1 : World} {L : List Int} {q : Nat} (H : Made L q w w1) : Chg [] w w1 := by
  obtain ⟨N, h1, h2, h3, h4⟩ := H
  exact h4
set_option maxRecDepth 100000 in
set_option maxHeartbeats 3200000 in
theorem known_any (w : World) : Calls Try.prog 9 #[] w fun e w' => e = .returned (.bool true) ∧ Chg [] w w' := by
  have HA : ∀ q W, Made [] q w W → Calls Try.prog 22 #[.pointer (some ⟨q, 0, none⟩), .slice (some ⟨W.heap.size, 0, none⟩) 3 3] (W.alloc (.cells #[.int .i64 1, .int .i64 2, .int .i64 3] 3)) fun e w' => e = .returned (.tuple #[]) ∧ Made [1, 2, 3] q w w' := fun q W H => (H.later ((Chg.refl _ _).alloc _)).put (Rd.three W 1 2 3) (by simp)
  have HB : ∀ q W, Made [1, 2, 3] q w W → Calls Try.prog 15 #[.pointer (some ⟨q, 0, none⟩), .int .i64 0, .slice (some ⟨W.heap.size, 0, none⟩) 4 4] (W.alloc (.cells #[.int .u8 1, .int .u8 2, .int .u8 1, .int .u8 3] 5)) fun e w' => e = .returned (.tuple #[.int .i64 2, .bool true]) ∧ Made [1, 3] q w w' := fun q W H => by
    have := (H.later ((Chg.refl _ _).alloc (.cells #[.int .u8 1, .int .u8 2, .int .u8 1, .int .u8 3] 5))).take (by simp) (Bs.four W) 0
    rw [show tkV (mayP [1, 2, 1, 3] 0) [1, 2, 3] = 2 by decide +kernel, show tkB (mayP [1, 2, 1, 3] 0) [1, 2, 3] = true by decide +kernel, show tkL (mayP [1, 2, 1, 3] 0) [1, 2, 3] = [1, 3] by decide +kernel] at this
    exact this
  have HC : ∀ q W, Made [1, 3] q w W → Calls Try.prog 15 #[.pointer (some ⟨q, 0, none⟩), .int .i64 0, .slice (some ⟨W.heap.size, 0, none⟩) 4 4] (W.alloc (.cells #[.int .u8 1, .int .u8 2, .int .u8 1, .int .u8 3] 5)) fun e w' => e = .returned (.tuple #[.int .i64 3, .bool true]) ∧ Made [1] q w w' := fun q W H => by
    have := (H.later ((Chg.refl _ _).alloc (.cells #[.int .u8 1, .int .u8 2, .int .u8 1, .int .u8 3] 5))).take (by simp) (Bs.four W) 0
    rw [show tkV (mayP [1, 2, 1, 3] 0) [1, 3] = 3 by decide +kernel, show tkB (mayP [1, 2, 1, 3] 0) [1, 3] = true by decide +kernel, show tkL (mayP [1, 2, 1, 3] 0) [1, 3] = [1] by decide +kernel] at this
    exact this
  have HD : ∀ q W, Made [1] q w W → Calls Try.prog 21 #[.pointer (some ⟨q, 0, none⟩)] W fun e w' => e = .returned (.int .i64 1) ∧ W = w' := fun q W H => H.len
  go_enter Try.func9, Try.ntmps9
  go_wp2_with (first
    | (go_at_call 10; refine (new_any _).mono ?_; rintro e w1 ⟨rfl, hw1⟩; have M0 := Lib.hid (show Made [] w.heap.size w w1 by rw [hw1]; exact made_new w); clear hw1)
    | (go_at_call 22; ((with_reducible refine (HA _ _ M0.out).mono ?_); rintro e w2 ⟨rfl, hM⟩); have M1 := Lib.hid hM; clear hM)
    | (go_at_call 15; ((with_reducible refine (HB _ _ M1.out).mono ?_); rintro e w3 ⟨rfl, hM⟩); have M2 := Lib.hid hM; clear hM)
    | (go_at_call 15; ((with_reducible refine (HC _ _ M2.out).mono ?_); rintro e w4 ⟨rfl, hM⟩); have M3 := Lib.hid hM; clear hM)
    | (go_at_call 21; ((with_reducible refine (HD _ _ M3.out).mono ?_); rintro e w5 ⟨rfl, rfl⟩)))
  go_ret
  exact ⟨rfl, M3.out.chg⟩
/-! ### Acts that came in -/
/-- They lie, and all that they name, below T. -/
def Acts (w : World) (T : Nat) (V : Value) (l : List ActV) : Prop :=
  T ≤ w.heap.size ∧ ∃ A c, V = .slice A l.length c ∧ ∀ (k : Nat) (a : ActV), l[k]? = some a → ∃ b off, A = some ⟨b, off, none⟩ ∧ b < T ∧ a.Fits w T ∧
    w.cell? ⟨b, off + k * 5, none⟩ = some (.int .i64 a.kind) ∧ w.cell? ⟨b, off + k * 5 + 1, none⟩ = some a.VL ∧ w.cell? ⟨b, off + k * 5 + 2, none⟩ = some (.int .i64 a.g) ∧ w.cell? ⟨b, off + k * 5 + 3, none⟩ = some (.int .i64 a.p) ∧ w.cell? ⟨b, off + k * 5 + 4, none⟩ = some a.VA
theorem Acts.chg {S : List Nat} {w w' : World} {T : Nat} {V : Value} {l : List ActV} (h : Acts w T V l) (hc : Chg S w w') (hS : ∀ k ∈ S, T ≤ k) : Acts w' T V l := by
  obtain ⟨h0, A, c, rfl, h1⟩ := h
  refine ⟨Nat.le_trans h0 hc.size, A, c, rfl, fun k a hk => ?_⟩
  obtain ⟨b, off, rfl, hb, hf, c0, c1, c2, c3, c4⟩ := h1 k a hk
  have hn : b ∉ S := fun hm => by have := hS b hm; omega
  have hl : b < w.heap.size := by omega
  exact ⟨b, off, rfl, hb, hf.chg hc hS, (hc.cell (p := ⟨b, _, none⟩) hl hn).trans c0, (hc.cell (p := ⟨b, _, none⟩) hl hn).trans c1, (hc.cell (p := ⟨b, _, none⟩) hl hn).trans c2, (hc.cell (p := ⟨b, _, none⟩) hl hn).trans c3, (hc.cell (p := ⟨b, _, none⟩) hl hn).trans c4⟩
theorem Acts.quiet {w w' : World} {T : Nat} {V : Value} {l : List ActV} (h : Acts w T V l) (hc : Chg [] w w') : Acts w' T V l := h.chg hc (fun _ h => by cases h)
def small (a : ActV) : Bool := decide (a.aff.length ≤ 100) && decide (a.l.length ≤ 50)
def fewB (l : List ActV) (most : Nat) : Bool := (l.take (most + 1)).all small && decide (l.length ≤ most)
theorem fewB_len {l : List ActV} {most : Nat} (h : fewB l most = true) : l.length ≤ most := by
  unfold fewB at h
  rw [Bool.and_eq_true] at h
  simpa using h.2
theorem fewB_small {l : List ActV} {most : Nat} (h : fewB l most = true) : ∀ (k : Nat) (a : ActV), l[k]? = some a → a.l.length ≤ 50 := by
  intro k a hk
  have hl := fewB_len h
  unfold fewB at h
  rw [Bool.and_eq_true, List.take_of_length_le (by omega), List.all_eq_true] at h
  have := h.1 a (List.mem_of_getElem? hk)
  unfold small at this
  rw [Bool.and_eq_true] at this
  simpa using this.2
theorem fewB_no {l : List ActV} {most k : Nat} {a : ActV} (ha : l[k]? = some a) (hk : k ≤ most) (h : small a = false) : fewB l most = false := by
  unfold fewB
  rw [Bool.and_eq_false_iff]
  left
  rw [List.all_eq_false]
  refine ⟨a, List.mem_of_getElem? (i := k) ?_, by simpa using h⟩
  rw [List.getElem?_take, if_pos (by omega)]
  exact ha
set_option maxHeartbeats 1600000 in
theorem few_any {w : World} {T : Nat} {V : Value} {l : List ActV} (h : Acts w T V l) (most : Nat) (hm : most ≤ 1000) :
    Calls Try.prog 8 #[V, .int .i64 (most : Nat)] w fun e w' => e = .returned (.bool (fewB l most)) ∧ w = w' := by
  obtain ⟨h0, A, c, rfl, ho⟩ := h
  obtain ⟨n, hn⟩ : ∃ n, n = l.length := ⟨_, rfl⟩
  rw [← hn]
  have HN := Lib.hid hn
  have HO := Lib.hid ho
  clear hn ho h0
  go_enter Try.func8, Try.ntmps8
  go_wp2
  go_loop [5] (fun i => ∃ k : Nat, k ≤ n ∧ k ≤ most + 1 ∧ i = .int .i64 k ∧ Hid (∀ j, j < k → ∀ a, l[j]? = some a → small a = true)) (fun i => n - (intOf i).toNat)
  case atStart => exact ⟨0, Nat.zero_le _, Nat.zero_le _, rfl, Lib.hid fun j hj => by omega⟩
  case round =>
    obtain ⟨k, hk, hk1, rfl, HE⟩ := hrel
    by_cases hgo : k < n ∧ k ≤ most
    · obtain ⟨hlt, hle⟩ := hgo
      obtain ⟨a, ha⟩ : ∃ a, l[k]? = some a := ⟨_, List.getElem?_eq_getElem (by rw [← HN.out]; exact hlt)⟩
      obtain ⟨b, off, rfl, hb, hf, c0, c1, c2, c3, c4⟩ := HO.out k a ha
      obtain ⟨A2, c9, hVA, _⟩ := hf.bs
      obtain ⟨A1, c8, hVL, _⟩ := hf.nums
      rw [hVA] at c4
      rw [hVL] at c1
      have i0 : (0 : Int) ≤ (k : Int) := by omega
      have i1 : (k : Int) < (n : Int) := by omega
      have i2 : (k : Int) ≤ (most : Int) := by omega
      have HA := Lib.hid ha
      have hsm : small a = (decide (a.aff.length ≤ 100) && decide (a.l.length ≤ 50)) := rfl
      obtain ⟨m, hm2⟩ : ∃ m, m = a.aff.length := ⟨_, rfl⟩
      obtain ⟨m1, hm1⟩ : ∃ m, m = a.l.length := ⟨_, rfl⟩
      rw [← hm2] at c4 hsm
      rw [← hm1] at c1 hsm
      have HSm := Lib.hid hsm
      clear ha hf hVA hVL hm1 hm2 c0 c2 c3 hsm
      by_cases hbig : 100 < m
      · have HZ := Lib.hid (fewB_no HA.out hle (by rw [HSm.out, decide_eq_false (by omega : ¬ m ≤ 100)]; rfl))
        have i3 : (100 : Int) < (m : Int) := by omega
        go_wp2
        go_ret
        exact ⟨by rw [HZ.out]; rfl, rfl⟩
      · have i3 : ¬ ((100 : Int) < (m : Int)) := by omega
        by_cases hbig1 : 50 < m1
        · have HZ := Lib.hid (fewB_no HA.out hle (by rw [HSm.out, decide_eq_false (by omega : ¬ m1 ≤ 50)]; simp))
          have i4 : (50 : Int) < (m1 : Int) := by omega
          clear hbig
          go_wp2
          go_ret
          exact ⟨by rw [HZ.out]; rfl, rfl⟩
        · have i4 : ¬ ((50 : Int) < (m1 : Int)) := by omega
          have HX := Lib.hid (show small a = true by rw [HSm.out, decide_eq_true (by omega : m ≤ 100), decide_eq_true (by omega : m1 ≤ 50)]; rfl)
          clear hbig hbig1
          go_wp2
          go_round
          case rel =>
            refine ⟨k + 1, by omega, by omega, by go_num, Lib.hid fun j hj a' ha' => ?_⟩
            by_cases e : j = k
            · subst e
              rw [HA.out] at ha'
              rw [← Option.some.inj ha']
              exact HX.out
            · exact HE.out j (by omega) a' ha'
          case measure => simp [intOf]; omega
    · have HZ := Lib.hid (show fewB l most = decide (n ≤ most) by
        unfold fewB
        have : (l.take (most + 1)).all small = true := by
          rw [List.all_eq_true]
          intro a ha
          obtain ⟨j, hj, e⟩ := List.mem_iff_getElem.1 ha
          rw [List.length_take] at hj
          have h9 : l[j]? = some a := by
            rw [← e, List.getElem_take]
            exact List.getElem?_eq_getElem (by omega)
          exact HE.out j (by have := HN.out; omega) a h9
        rw [this, Bool.true_and, HN.out])
      by_cases hlt : k < n
      · have i2 : ¬ ((k : Int) ≤ (most : Int)) := by omega
        have i4 : ¬ ((n : Int) ≤ (most : Int)) := by omega
        have HY := Lib.hid (show decide (n ≤ most) = false by simp; omega)
        clear hgo
        go_wp2
        go_ret
        exact ⟨by rw [HZ.out, HY.out]; rfl, rfl⟩
      · obtain rfl : k = n := by omega
        clear hgo
        go_wp2
        go_ret
        exact ⟨by rw [HZ.out]; simp, rfl⟩
end Go.Proofs
