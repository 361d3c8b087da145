/-
  A copy goes on apart, at the same places, and which are the same (stage 12).
-/
import Derived.Test.YthgdkaldnaeijaaM6
import Derived.Test.YthgdkaldnaeijaaM8
import Derived.Test.YthgdkaldnaeijaaM9
import Derived.Deep.RegionWith
import Derived.Test.YthgdkaldnaeijaaRows
import Derived.WalkKit
import Derived.Below
import Derived.ChangeSame
import Derived.ProofKit
import Derived.OpenShut
section
namespace Go.Proofs
open Go.RowKit
set_option linter.unusedVariables false
set_option linter.unusedSimpArgs false

theorem plCells_one (l : List Pl) : ∀ u ∈ plCells l, u.oneCell' = true := by
  intro u hu
  unfold plCells at hu
  rw [List.mem_flatMap] at hu
  obtain ⟨p, _, hp⟩ := hu
  simp [Pl.cells] at hp
  rcases hp with rfl | rfl | rfl | rfl <;> rfl
set_option maxHeartbeats 3200000 in
set_option maxRecDepth 100000 in
theorem rcopy_any {w : World} {h : Nat} {T K : List Nat} {r : Rf} (H : RefAt w h T K r) (hl1 : 1 ≤ r.L.length) (hl2 : r.L.length ≤ 4096) :
    Calls Try.prog 29 #[ptr h] w fun e w' => ∃ h2 T2, e = .returned (ptr h2) ∧ RefAt w' h2 T2 K r ∧ (∀ k ∈ T2, w.heap.size ≤ k) ∧ Chg [] w w' := by
  obtain ⟨i0, hi0, hz0, hz1, hz2⟩ := info_parts Try.pl_info
  have HH := Lib.hid H
  obtain ⟨g, cl, hB, hL, hP, hR, hRK, hK, rfl, cs0, hG⟩ := H
  have HB := Lib.hid hB
  have HN := Lib.hid (fun W (hc : Chg [] w W) => show ∀ j u, (plCells r.L)[j]? = some u → W.cell? ((⟨g, 0, none⟩ : Addr).add j) = some u from by
    obtain ⟨g', c', hv, _, _, hcell, _⟩ := (hL.chg hc (fun _ _ h => by cases h)).form (by omega)
    simp only [Value.slice.injEq, Option.some.injEq, Addr.mk.injEq] at hv
    obtain ⟨⟨rfl, _⟩, _⟩ := hv
    intro j u hu
    have hadd : (⟨g, 0, none⟩ : Addr).add j = ⟨g, j, none⟩ := by unfold Addr.add; split <;> simp_all
    rw [hadd]
    exact hcell j u hu)
  have HKS := Lib.hid hK
  have HPS := Lib.hid hP
  have HRR := Lib.hid (And.intro hR hRK)
  have c0 := hB.cell 0
  have c1 := hB.cell 1
  have c2 := hB.cell 2
  simp only [List.getElem?_toArray, List.getElem?_cons_zero, List.getElem?_cons_succ] at c0 c1 c2
  have lh := hB.lt
  obtain ⟨n, hn⟩ : ∃ n, n = r.L.length := ⟨_, rfl⟩
  have HLN := Lib.hid hn
  rw [← hn] at c0 hl1 hl2
  clear hB hL hP hR hRK hK hG hn
  go_enter Try.func29, Try.ntmps29
  go_wp2
  go_region_held3 (fun w' => w'.cell? ⟨h, 1, none⟩ = some r.V ∧ w'.cell? ⟨h, 2, none⟩ = some (.int .i64 r.T) ∧ w'.cell? ⟨h, 0, none⟩ = some (.slice (some ⟨g, 0, none⟩) n cl))
    (first | (go_keep; done))
    (first
      | ((refine step_append_row _ (by rfl) _ _ 58 (by rfl) 62 i0 _ 4 48 Try.underlying58 hi0 hz0 hz1 hz2 rfl (.slice none 0 0) 0 [] (by rfl) (Row.nil _ _ _) ⟨g, 0, none⟩ n cl (plCells r.L) (by rfl) (by rw [plCells_len, HLN.out]) (HN.out _ ((Chg.refl [] _).drew)) (plCells_one _) (by omega) (by unfold maxLen; omega) (by omega) w.heap.size (by simp) ?_; intro gg cap w1 hrow hgrow hat hlt1; simp only [Nat.zero_add, List.nil_append] at hrow ⊢; have hch : Chg [] w w1 := ((Chg.refl [] w).drew).grown hgrow (fun k hk => by cases hk); have d0 := (hch.cell (p := ⟨h, 0, none⟩) lh (by simp)).trans c0; have d1 := (hch.cell (p := ⟨h, 1, none⟩) lh (by simp)).trans c1; have d2 := (hch.cell (p := ⟨h, 2, none⟩) lh (by simp)).trans c2; have lw : h < w1.heap.size := (by have := hch.size; omega); have HROW := Lib.hid hrow; have HCH := Lib.hid hch; have HAT := Lib.hid hat; have HLT := Lib.hid hlt1; clear hrow hgrow hat hlt1 hch)))
  all_goals
    go_wp2
    go_ret
    have hrow := HROW.out
    rw [HLN.out] at hrow
    have hcl := HCH.out
    have hgg : gg = w.heap.size := by
      rcases HAT.out with h | h
      · simp [Value.ownBlock] at h
      · exact h
    refine ⟨_, [w1.heap.size, gg], rfl, ⟨gg, cap, by rw [← HLN.out]; exact Blk.new w1 60 _, (hrow.alloc _), fun p hp => ⟨((HPS.out p hp).1.quiet (hcl.alloc _)), (HPS.out p hp).2⟩, ?_, ?_, ?_, rfl, ?_⟩, ?_, ?_⟩
    · exact HRR.out.1.quiet (hcl.alloc _)
    · exact HRR.out.2
    · intro k hk
      obtain ⟨cs, hb⟩ := HKS.out k hk
      exact ⟨cs, (hb.chg hcl (by simp)).alloc _⟩
    · rcases hrow.2 with ⟨h0, _⟩ | ⟨g', c', cur, hv, hb, _⟩
      · simp at h0
      · simp only [Value.slice.injEq, Option.some.injEq, Addr.mk.injEq] at hv
        obtain ⟨⟨rfl, _⟩, _⟩ := hv
        exact ⟨cur, hb.alloc _⟩
    · intro k hk
      have := hcl.size
      simp only [List.mem_cons, List.not_mem_nil, or_false] at hk
      rcases hk with rfl | rfl <;> omega
    · exact hcl.alloc _
end Go.Proofs
end
section
namespace Go.Proofs
open Go.RowKit
set_option linter.unusedVariables false
set_option linter.unusedSimpArgs false

/-- Two pairs, apart. -/
def Mid2 (w W : World) (f d : Nat) (t : Fo) (m : Nat) (o v : Nat) (u : Fo) (p : Nat) : Prop :=
  ∃ S1 T1 K1 S2 T2 K2, Pair W f d S1 T1 K1 t m ∧ Pair W o v S2 T2 K2 u p ∧ (∀ k ∈ S1 ++ (T1 ++ K1), w.heap.size ≤ k) ∧ (∀ k ∈ S2 ++ (T2 ++ K2), w.heap.size ≤ k) ∧ (∀ k ∈ S1 ++ T1, k ∉ S2 ++ (T2 ++ K2)) ∧ (∀ k ∈ S2 ++ T2, k ∉ S1 ++ (T1 ++ K1)) ∧ Chg [] w W
section
variable {w W W' : World} {f d o v : Nat} {t u : Fo} {m p : Nat}
theorem Mid2.chg (h : Mid2 w W f d t m o v u p) : Chg [] w W := by obtain ⟨_, _, _, _, _, _, _, _, _, _, _, _, h⟩ := h; exact h
theorem Mid2.symm (h : Mid2 w W f d t m o v u p) : Mid2 w W o v u p f d t m := by
  obtain ⟨S1, T1, K1, S2, T2, K2, a1, a2, a3, a4, a5, a6, a7⟩ := h
  exact ⟨S2, T2, K2, S1, T1, K1, a2, a1, a4, a3, a6, a5, a7⟩
theorem Mid2.quiet (h : Mid2 w W f d t m o v u p) (hc : Chg [] W W') : Mid2 w W' f d t m o v u p := by
  obtain ⟨S1, T1, K1, S2, T2, K2, a1, a2, a3, a4, a5, a6, a7⟩ := h
  exact ⟨S1, T1, K1, S2, T2, K2, a1.quiet hc, a2.quiet hc, a3, a4, a5, a6, a7.then hc⟩
theorem Mid2.do (h : Mid2 w W f d t m o v u p) (hm : m ≤ 1000000) (k n : Int) :
    Calls Try.prog 13 #[ptr f, ptr d, .agg #[.int .i64 k, .int .i64 n]] W fun e W' => e = .returned (.bool true) ∧ ∃ t', Mid2 w W' f d t' (m + 1) o v u p := by
  obtain ⟨S1, T1, K1, S2, T2, K2, a1, a2, a3, a4, a5, a6, a7⟩ := h
  refine (do_any a1 hm k n).mono ?_
  rintro e W' ⟨rfl, t', S', K', b1, b2, b3, b4⟩
  have hz := a7.size
  have hlt := a2.lt
  have mem : ∀ k, k ∈ S' ++ (T1 ++ K') → k ∈ S1 ++ (T1 ++ K1) ∨ W.heap.size ≤ k := fun k hk => by
    rcases List.mem_append.1 hk with h | h
    · rcases b2 k h with h | h
      · exact .inl (List.mem_append_left _ h)
      · exact .inr h
    · rcases List.mem_append.1 h with h | h
      · exact .inl (List.mem_append_right _ (List.mem_append_left _ h))
      · rcases b3 k h with h | h
        · exact .inl (List.mem_append_right _ (List.mem_append_right _ h))
        · exact .inr h
  refine ⟨rfl, t', S', T1, K', S2, T2, K2, b1, a2.chg b4 (fun k hk hh => a5 k hh (List.mem_append_left _ hk)) (fun k hk hh => a5 k hh (List.mem_append_right _ (List.mem_append_left _ hk))) (fun k hk hh => a5 k hh (List.mem_append_right _ (List.mem_append_right _ hk))), fun k hk => ?_, a4, fun k hk hh => ?_, fun k hk hh => ?_, a7.trans b4 (fun k hk => .inr (a3 k ?_))⟩
  · rcases mem k hk with h | h
    · exact a3 k h
    · omega
  · have : k ∈ S1 ++ T1 ∨ W.heap.size ≤ k := by
      rcases List.mem_append.1 hk with h | h
      · rcases b2 k h with h | h
        · exact .inl (List.mem_append_left _ h)
        · exact .inr h
      · exact .inl (List.mem_append_right _ h)
    rcases this with h | h
    · exact a5 k h hh
    · have := hlt k hh; omega
  · rcases mem k hh with h | h
    · exact a6 k hk h
    · have := hlt k (by
        rcases List.mem_append.1 hk with h | h
        · exact List.mem_append_left _ h
        · exact List.mem_append_right _ (List.mem_append_left _ h))
      omega
  · rcases List.mem_append.1 hk with h | h
    · exact List.mem_append_left _ h
    · exact List.mem_append_right _ (List.mem_append_left _ h)
theorem Mid2.do2 (h : Mid2 w W f d t m o v u p) (hm : p ≤ 1000000) (k n : Int) :
    Calls Try.prog 13 #[ptr o, ptr v, .agg #[.int .i64 k, .int .i64 n]] W fun e W' => e = .returned (.bool true) ∧ ∃ u', Mid2 w W' f d t m o v u' (p + 1) :=
  (h.symm.do hm k n).mono fun e W' ⟨a, u', b⟩ => ⟨a, u', b.symm⟩
theorem Mid2.look1 (h : Mid2 w W f d t m o v u p) : Calls Try.prog 14 #[ptr f, ptr d] W fun e W' => e = .returned (.bool true) ∧ Mid2 w W' f d t m o v u p := by
  have hh := h
  obtain ⟨S1, T1, K1, S2, T2, K2, a1, a2, a3, a4, a5, a6, a7⟩ := h
  exact (same_look a1.looks).mono fun e W' ⟨a, hc⟩ => ⟨a, hh.quiet hc⟩
theorem Mid2.look2 (h : Mid2 w W f d t m o v u p) : Calls Try.prog 14 #[ptr o, ptr v] W fun e W' => e = .returned (.bool true) ∧ Mid2 w W' f d t m o v u p :=
  h.symm.look1.mono fun e W' ⟨a, b⟩ => ⟨a, b.symm⟩
theorem Mid2.csame (h : Mid2 w W f d t m o v u p) {b : Bool} (hb : b = true ↔ Alike t u) : Calls Try.prog 18 #[ptr f, ptr o] W fun e W' => e = .returned (.bool b) ∧ Mid2 w W' f d t m o v u p := by
  have hh := h
  obtain ⟨S1, T1, K1, S2, T2, K2, ⟨c1, r1, p1, p2, p3, p4, p5⟩, ⟨c2, r2, q1, q2, q3, q4, q5⟩, a3, a4, a5, a6, a7⟩ := h
  exact (same_any p1 q1 p2.lenN q2.lenN (by rw [p2.size]; exact p2.big) (hb.trans (same_alike p2 q2).symm)).mono fun e W' ⟨a, hc⟩ => ⟨a, hh.quiet hc⟩
theorem Mid2.rsame (h : Mid2 w W f d t m o v u p) {b : Bool} (hb : b = true ↔ Alike t u) : Calls Try.prog 30 #[ptr d, ptr v] W fun e W' => e = .returned (.bool b) ∧ Mid2 w W' f d t m o v u p := by
  have hh := h
  obtain ⟨S1, T1, K1, S2, T2, K2, ⟨c1, r1, p1, p2, p3, p4, p5⟩, ⟨c2, r2, q1, q2, q3, q4, q5⟩, a3, a4, a5, a6, a7⟩ := h
  exact (rsame2_any p3 q3 p4 q4 hb).mono fun e W' ⟨a, hc⟩ => ⟨a, hh.quiet hc⟩
theorem Mid2.known (h : Mid2 w W f d t m o v u p) : Calls Try.prog 10 #[] W fun e W' => e = .returned (.bool true) ∧ Mid2 w W' f d t m o v u p :=
  (known_any W).mono fun e W' ⟨a, hc⟩ => ⟨a, h.quiet hc⟩
/-- Both are copied. -/
theorem Mid.both (h : Mid w W f d t m) : Calls Try.prog 15 #[ptr f] W fun e W1 => ∃ o, e = .returned (ptr o) ∧ Calls Try.prog 29 #[ptr d] W1 fun e2 W2 => ∃ v, e2 = .returned (ptr v) ∧ Mid2 w W2 f d t m o v t m := by
  obtain ⟨S, T, K, ⟨c, r, a1, a2, a3, a4, a5⟩, h2, h3, h4, h5⟩ := h
  have hS := a1.lt
  have hT := a3.ltT
  have hK := a3.ltK
  have hz := h5.size
  have hap := a3.apart
  refine (copy_any a1 (by have := a2.size; have := a2.one; omega) a2.lenN (by have := a2.count.2; have := a2.lenN; omega)).mono ?_
  rintro e W1 ⟨rfl, So, b1, b2, b3⟩
  refine ⟨_, rfl, ?_⟩
  have hSo := b1.lt
  have hz1 := b3.size
  refine (rcopy_any (a3.quiet b3) (by rw [a4.len]; exact a2.one) (by rw [a4.len]; exact a2.big)).mono ?_
  rintro e2 W2 ⟨v, T2, rfl, d1, d2, d3⟩
  have mem : ∀ k, k ∈ S ++ (T ++ K) → k < W.heap.size := fun k hk => by
    rcases List.mem_append.1 hk with h | h
    · exact hS k h
    · rcases List.mem_append.1 h with h | h
      · exact hT k h
      · exact hK k h
  refine ⟨v, rfl, S, T, K, So, T2, K, ⟨c, r, (a1.quiet b3).quiet d3, a2, (a3.quiet b3).quiet d3, a4, a5⟩, ⟨c, r, b1.quiet d3, a2, d1, a4, fun k hk => ⟨fun hkT => ?_, fun hkK => ?_⟩⟩, fun k hk => ?_, fun k hk => ?_, fun k hk hh => ?_, fun k hk hh => ?_, (h5.then b3).then d3⟩
  · have := d2 k hkT; have := hSo k hk; omega
  · have := hK k hkK; have := b2 k hk; omega
  · rcases List.mem_append.1 hk with h | h
    · exact h2 k h
    · rcases List.mem_append.1 h with h | h
      · exact h3 k h
      · exact h4 k h
  · rcases List.mem_append.1 hk with h | h
    · have := b2 k h; omega
    · rcases List.mem_append.1 h with h | h
      · have := d2 k h; omega
      · exact h4 k h
  · have hlt : k < W.heap.size := mem k (by
      rcases List.mem_append.1 hk with h | h
      · exact List.mem_append_left _ h
      · exact List.mem_append_right _ (List.mem_append_left _ h))
    rcases List.mem_append.1 hh with h | h
    · have := b2 k h; omega
    · rcases List.mem_append.1 h with h | h
      · have := d2 k h; omega
      · rcases List.mem_append.1 hk with h9 | h9
        · exact (a5 k h9).2 h
        · exact hap k h9 h
  · have := mem k hh
    rcases List.mem_append.1 hk with h | h
    · have := b2 k h; omega
    · have := d2 k h; omega
end
end Go.Proofs
end
section
namespace Go.Proofs
open Go.RowKit
set_option linter.unusedVariables false
set_option linter.unusedSimpArgs false
theorem eql_ptr_nilC (o : Nat) (w : World) : (binOp .eql 25 (ptr o) (.pointer none)).run Try.prog w = .ok (.bool false) w := by kernel_rfl
attribute [local go_sem] eql_ptr_nilC

set_option maxHeartbeats 25600000 in
set_option maxRecDepth 100000 in
theorem copies_any (n : Int) (V V2 V3 : Value) (acts acts2 acts3 : List ActT) (w : World) (hV : ActsT w V acts) (hV2 : ActsT w V2 acts2) (hV3 : ActsT w V3 acts3) :
    Calls Try.prog 7 #[.int .i64 n, V, V2, V3] w fun e w' => e = .returned (.bool true) ∧ Chg [] w w' := by
  have HK := Lib.hid known_any
  obtain ⟨A1, c1, rfl⟩ := hV.open_
  obtain ⟨A2, c2, rfl⟩ := hV2.open_
  obtain ⟨A3, c3, rfl⟩ := hV3.open_
  obtain ⟨m, hm⟩ : ∃ m, m = acts.length := ⟨_, rfl⟩
  obtain ⟨m2, hm2⟩ : ∃ m2, m2 = acts2.length := ⟨_, rfl⟩
  obtain ⟨m3, hm3⟩ : ∃ m3, m3 = acts3.length := ⟨_, rfl⟩
  rw [← hm] at hV ⊢
  rw [← hm2] at hV2 ⊢
  rw [← hm3] at hV3 ⊢
  have HV := Lib.hid hV
  have HV2 := Lib.hid hV2
  have HV3 := Lib.hid hV3
  clear hV hm hV2 hm2 hV3 hm3
  have HM := Lib.hid (much_any n 50 A1 m c1)
  obtain ⟨b, hb⟩ : ∃ b, b = muchB n m 50 := ⟨_, rfl⟩
  rw [← hb] at HM
  cases b with
  | true =>
    clear hb
    go_enter Try.func7, Try.ntmps7
    go_wp2_with (first
      | (go_at_call 9; refine (HM.out _).mono ?_; rintro e w1 ⟨rfl, hc⟩; have HC := Lib.hid hc; clear hc)
      | (go_at_call 10; refine (HK.out _).mono ?_; rintro e w2 ⟨rfl, hc⟩))
    go_ret
    exact ⟨rfl, HC.out.then hc⟩
  | false =>
    by_cases h2 : 25 < (m2 : Int)
    · have f1 : decide ((m2 : Int) > 25) = true := by simpa using h2
      have f2 : decide (25 < (m2 : Int)) = true := by simpa using h2
      clear hb
      go_enter Try.func7, Try.ntmps7
      go_wp2_with (first
        | (go_at_call 9; refine (HM.out _).mono ?_; rintro e w1 ⟨rfl, hc⟩; have HC := Lib.hid hc; clear hc)
        | (go_at_call 10; refine (HK.out _).mono ?_; rintro e w2 ⟨rfl, hc⟩))
      go_ret
      exact ⟨rfl, HC.out.then hc⟩
    have f1 : decide ((m2 : Int) > 25) = false := by simpa using h2
    have f2 : decide (25 < (m2 : Int)) = false := by simpa using h2
    by_cases h3 : 25 < (m3 : Int)
    · have f3 : decide ((m3 : Int) > 25) = true := by simpa using h3
      have f4 : decide (25 < (m3 : Int)) = true := by simpa using h3
      clear hb
      go_enter Try.func7, Try.ntmps7
      go_wp2_with (first
        | (go_at_call 9; refine (HM.out _).mono ?_; rintro e w1 ⟨rfl, hc⟩; have HC := Lib.hid hc; clear hc)
        | (go_at_call 10; refine (HK.out _).mono ?_; rintro e w2 ⟨rfl, hc⟩))
      go_ret
      exact ⟨rfl, HC.out.then hc⟩
    have f3 : decide ((m3 : Int) > 25) = false := by simpa using h3
    have f4 : decide (25 < (m3 : Int)) = false := by simpa using h3
    obtain ⟨n1, n2, hm80⟩ := muchB_false hb.symm
    obtain ⟨s, rfl⟩ : ∃ s : Nat, n = s := ⟨n.toNat, by omega⟩
    clear hb
    have HN := Lib.hid (new_any s (by omega) (by omega))
    have HR := Lib.hid (rnew_any s (by omega) (by omega))
    have hs1 : 1 ≤ s := by omega
    have hs2 : s ≤ 4096 := by omega
    have hm9 : m ≤ 50 := by omega
    have hm29 : m2 ≤ 25 := by omega
    have hm39 : m3 ≤ 25 := by omega
    go_enter Try.func7, Try.ntmps7
    go_wp2_with (first
      | (go_at_call 9; refine (HM.out _).mono ?_; rintro e w1 ⟨rfl, hc⟩; have HC := Lib.hid hc; clear hc)
      | (go_at_call 11; refine (HN.out _).mono ?_; rintro e w2 ⟨rfl, hT, hc⟩; have HTR := Lib.hid hT; have hfs := HC.out.size; have HC := Lib.hid (HC.out.then hc); clear hc hT)
      | (go_at_call 12; refine (HR.out _).mono ?_; rintro e w3 ⟨d, T, rfl, hR, hTn, hc⟩; have HMID := Lib.hid (mid_new hs1 hs2 HC.out HTR.out hfs hR hTn hc); clear hR hTn hc hfs HTR HC))
    obtain ⟨f, hf⟩ : ∃ f, f = w1.heap.size := ⟨_, rfl⟩
    rw [← hf] at HMID ⊢
    clear hf f1 f2 f3 f4 h2 h3 HN HR HM
    go_loopg [12] m (fun gh iv wr => ∃ (j : Nat) (t : Fo), j + gh = m ∧ iv = .int .i64 j ∧ Hid (Mid w wr f d t j))
    case atStart => exact ⟨0, _, by omega, rfl, HMID⟩
    case round =>
      clear HMID
      obtain ⟨j, t, hj, rfl, HMI⟩ := hrel
      by_cases hlt : j < m
      · have j0 : (0 : Int) ≤ (j : Int) := by omega
        have j1 : (j : Int) < (m : Int) := by omega
        obtain ⟨bI, oI, kd, nn, hA, hcells⟩ := HV.out.at_ hlt
        subst hA
        obtain ⟨z0, z1, z2⟩ := hcells wr HMI.out.chg
        have HDO := Lib.hid (HMI.out.do (by omega) kd nn)
        have d1 : decide ((j : Int) < (m : Int)) = true := by simpa using j1
        clear HV hcells HV2 HV3
        go_wp2_with (go_at_call 13; refine HDO.out.mono ?_; rintro e w4 ⟨rfl, t', hM'⟩; have HM' := Lib.hid hM'; clear hM')
        go_roundg (m - j - 1)
        case measure => omega
        case rel => exact ⟨j + 1, t', by omega, by go_num, HM'⟩
      · have d1 : decide ((j : Int) < (m : Int)) = false := by simp; omega
        have hj9 : j ≤ 50 := by omega
        have HCP := Lib.hid HMI.out.both
        clear HV HMI
        go_wp2_with (first
          | (go_at_call 15; refine HCP.out.mono ?_; rintro e w5 ⟨o, rfl, hr⟩; have HRC := Lib.hid hr; clear hr)
          | (go_at_call 29; refine HRC.out.mono ?_; rintro e w6 ⟨v, rfl, hq⟩; have HQ := Lib.hid hq; have HSM := Lib.hid (hq.symm.csame (b := true) ⟨fun _ => Alike.refl t, fun _ => rfl⟩); clear hq)
          | (go_at_call 18; refine HSM.out.mono ?_; rintro e w7 ⟨rfl, hq⟩; have HQ := Lib.hid hq.symm; clear hq))
        clear HCP HRC HSM
        go_loopg [15] m2 (fun gh iv wr => ∃ (k : Nat) (t9 : Fo), k + gh = m2 ∧ iv = .int .i64 k ∧ Hid (Mid2 w wr f d t9 (j + k) o v t j))
        case atStart => exact ⟨0, t, by omega, rfl, HQ⟩
        case round =>
          clear HQ
          obtain ⟨k, t9, hk, rfl, HQ⟩ := hrel
          by_cases hlt2 : k < m2
          · have j0 : (0 : Int) ≤ (k : Int) := by omega
            have j1 : (k : Int) < (m2 : Int) := by omega
            obtain ⟨bI, oI, kd, nn, hA, hcells⟩ := HV2.out.at_ hlt2
            subst hA
            obtain ⟨z0, z1, z2⟩ := hcells wr HQ.out.chg
            have HDO := Lib.hid (HQ.out.do (by omega) kd nn)
            have d2 : decide ((k : Int) < (m2 : Int)) = true := by simpa using j1
            clear HV2 hcells HV3
            go_wp2_with (go_at_call 13; refine HDO.out.mono ?_; rintro e w4 ⟨rfl, t', hM'⟩; have HM' := Lib.hid hM'; clear hM')
            go_roundg (m2 - k - 1)
            case measure => omega
            case rel => exact ⟨k + 1, t', by omega, by go_num, HM'⟩
          · have d2 : decide ((k : Int) < (m2 : Int)) = false := by simp; omega
            have hk9 : k ≤ 25 := by omega
            obtain ⟨M, hM⟩ : ∃ M, M = j + k := ⟨_, rfl⟩
            rw [← hM] at HQ
            clear hM HV2
            go_wp2
            go_loopg [16] m3 (fun gh iv wr => ∃ (q : Nat) (u9 : Fo), q + gh = m3 ∧ iv = .int .i64 q ∧ Hid (Mid2 w wr f d t9 M o v u9 (j + q)))
            case atStart => exact ⟨0, t, by omega, rfl, HQ⟩
            case round =>
              clear HQ
              obtain ⟨q, u9, hq9, rfl, HQ⟩ := hrel
              by_cases hlt3 : q < m3
              · have j0 : (0 : Int) ≤ (q : Int) := by omega
                have j1 : (q : Int) < (m3 : Int) := by omega
                obtain ⟨bI, oI, kd, nn, hA, hcells⟩ := HV3.out.at_ hlt3
                subst hA
                obtain ⟨z0, z1, z2⟩ := hcells wr HQ.out.chg
                have HDO := Lib.hid (HQ.out.do2 (by omega) kd nn)
                have d3 : decide ((q : Int) < (m3 : Int)) = true := by simpa using j1
                clear hcells HV3
                go_wp2_with (go_at_call 13; refine HDO.out.mono ?_; rintro e w4 ⟨rfl, t', hM'⟩; have HM' := Lib.hid hM'; clear hM')
                go_roundg (m3 - q - 1)
                case measure => omega
                case rel => exact ⟨q + 1, t', by omega, by go_num, HM'⟩
              · have d3 : decide ((q : Int) < (m3 : Int)) = false := by simp; omega
                obtain ⟨b, hb⟩ : ∃ b : Bool, b = true ↔ Alike t9 u9 := by
                  by_cases hu : Alike t9 u9
                  · exact ⟨true, by simp [hu]⟩
                  · exact ⟨false, by simp [hu]⟩
                obtain ⟨P, hP⟩ : ∃ P, P = j + q := ⟨_, rfl⟩
                rw [← hP] at HQ
                have HRS := Lib.hid (fun W (hq : Mid2 w W f d t9 M o v u9 P) => hq.rsame hb)
                have HL1 := Lib.hid (fun W (hq : Mid2 w W f d t9 M o v u9 P) => hq.look1)
                have HL2 := Lib.hid (fun W (hq : Mid2 w W f d t9 M o v u9 P) => hq.look2)
                have HC1 := Lib.hid (fun W (hq : Mid2 w W f d t9 M o v u9 P) => hq.csame hb)
                have HC2 := Lib.hid (fun W (hq : Mid2 w W f d t9 M o v u9 P) => (hq.symm.csame (hb.trans ⟨fun h => h.symm, fun h => h.symm⟩)).mono fun e W' (h : e = .returned (.bool b) ∧ Mid2 w W' o v u9 P f d t9 M) => show e = .returned (.bool b) ∧ Mid2 w W' f d t9 M o v u9 P from ⟨h.1, h.2.symm⟩)
                have ebb : (b == b) = true := by simp
                clear hb hP HV3
                go_wp2_with (first
                  | (go_at_call 30; refine (HRS.out _ HQ.out).mono ?_; rintro e w8 ⟨rfl, hq⟩; have HQ := Lib.hid hq; clear hq)
                  | (go_at_call_of 14 (ptr f); refine (HL1.out _ HQ.out).mono ?_; rintro e w9 ⟨rfl, hq⟩; have HQ := Lib.hid hq; clear hq)
                  | (go_at_call_of 14 (ptr o); refine (HL2.out _ HQ.out).mono ?_; rintro e w10 ⟨rfl, hq⟩; have HQ := Lib.hid hq; clear hq)
                  | (go_at_call 18; refine (HC1.out _ HQ.out).mono ?_; rintro e w11 ⟨rfl, hq⟩; have HQ := Lib.hid hq; clear hq HC1)
                  | (go_at_call 18; refine (HC2.out _ HQ.out).mono ?_; rintro e w12 ⟨rfl, hq⟩; have HQ := Lib.hid hq; clear hq)
                  | (go_at_call 10; refine HQ.out.known.mono ?_; rintro e w13 ⟨rfl, hq⟩))
                go_ret
                exact ⟨rfl, hq.chg⟩
end Go.Proofs
end
section
namespace Go.Proofs.Ythgdkaldnaeijaa.treeCopies
open Go.ChangeShapes Go.WideShapes Go.ChangeAt Go.RowKit
set_option linter.unusedVariables false

theorem own : ownKnob Try.prog.godebug = none := by kernel_rfl

set_option maxRecDepth 100000 in
theorem lifted (os : Os) (started : os.Started) (H : Type) (enc : TypeId × Value → H) :
    ReturnsInHanded {} Try.checked os 7 .any (Rows.treeCopiesSpec.pre6 enc Try.prog Try.f7 Rows.treeCopiesRow.domain false) (Rows.treeCopiesSpec.post enc Try.prog Try.f7 false true false false) := by
  refine returnsInHanded_of_change (C := Try.checked) own started (by kernel_rfl) Try.func7
    (ChangeSpec.witness6 (enc := enc) (C := Try.checked) false ⟨#[], #[.int .i64 0, .slice none 0 0, .slice none 0 0, .slice none 0 0], []⟩ 8 (by kernel_rfl) (by kernel_rfl) (by kernel_rfl) (by kernel_rfl)) ?_
  intro W base args ds gs before hval0 hW hcnd _
  have hval : ∀ (j : Nat) t v, Try.f7.params[j]? = some t → args[j]? = some v → Value.okWide Try.prog W .any base t v := hval0
  have hW' := hW
  obtain ⟨p, q, hA0, hV, rfl, hfz, hnd⟩ := hW
  have hA : DataW.TrodAll enc Try.prog W 0 (fun _ => true) true Try.f7.params.toList args.toList ds p := hA0
  rw [Try.params7] at hA hval
  obtain ⟨v0, vs0, d0, ds0, p0, q0, hargs, rfl, rfl, h0, r0⟩ := trodAll_cons hA
  obtain ⟨v1, vs1, d1, ds1, p1, q1, rfl, rfl, rfl, h1, r1⟩ := trodAll_cons r0
  obtain ⟨v2, vs2, d2, ds2, p2, q2, rfl, rfl, rfl, h2, r2⟩ := trodAll_cons r1
  obtain ⟨v3, vs3, d3, ds3, p3, q3, rfl, rfl, rfl, h3, r3⟩ := trodAll_cons r2
  obtain ⟨rfl, rfl, rfl⟩ := trodAll_nil r3
  obtain rfl : args = #[v0, v1, v2, v3] := by cases args; simp_all
  obtain ⟨rfl, rfl⟩ := trodVars_none hV
  obtain ⟨a0, rfl, rfl, rfl, w0⟩ := open_int Try.underlying3 (hval 0 3 v0 rfl rfl) h0
  clear hA0 hval0
  simp only [List.append_nil, List.nil_append] at hW'
  obtain ⟨b0, c0⟩ := bounds_i64 w0
  have hlt1 : ∀ x ∈ p1, x.block < W.heap.size := fun x hx => hW'.lt x (by simp [hx])
  obtain ⟨l1, hl1⟩ := open_acts (hval 1 22 v1 rfl rfl) h1
  have hlt2 : ∀ x ∈ p2, x.block < W.heap.size := fun x hx => hW'.lt x (by simp [hx])
  obtain ⟨l2, hl2⟩ := open_acts (hval 2 22 v2 rfl rfl) h2
  have hlt3 : ∀ x ∈ p3, x.block < W.heap.size := fun x hx => hW'.lt x (by simp [hx])
  obtain ⟨l3, hl3⟩ := open_acts (hval 3 22 v3 rfl rfl) h3
  refine (copies_any _ _ _ _ _ _ _ _ hl1 hl2 hl3).mono fun e W' ⟨he, hc⟩ => ?_
  have hg := hc.to_below
  subst he
  exact ⟨_, rfl, post_of_below (pa := ([] ++ (p1 ++ (p2 ++ (p3 ++ []))))) (pv := []) hW' (fun _ _ _ => (trodAll_cons_mk (shut_bool Try.underlying4 _) trodAll_mk0)) (fun sp hsp => (trodAll_cons_mk (shut_int Try.underlying3 w0) (trodAll_cons_mk (WideElems.Trod_stays Try.laidOut (by kernel_rfl) (of_decide_eq_true (by kernel_rfl)) h1 (fun x hx => hg.same (hlt1 x hx)) (fun x hx => hsp x (by simp [hx]))) (trodAll_cons_mk (WideElems.Trod_stays Try.laidOut (by kernel_rfl) (of_decide_eq_true (by kernel_rfl)) h2 (fun x hx => hg.same (hlt2 x hx)) (fun x hx => hsp x (by simp [hx]))) (trodAll_cons_mk (WideElems.Trod_stays Try.laidOut (by kernel_rfl) (of_decide_eq_true (by kernel_rfl)) h3 (fun x hx => hg.same (hlt3 x hx)) (fun x hx => hsp x (by simp [hx]))) trodAll_mk0))))) (fun _ _ => rfl) (by simp)
    hg (ok_one (by kernel_rfl) rfl (okWide_bool_mk Try.underlying4 _))⟩

theorem over : Rows.treeCopiesRow.holds Try.pinned (OpenSpec.ofChange Rows.treeCopiesSpec) :=
  OpenClaim.holds_of_wide 7 Try.f7 rfl rfl rfl rfl rfl rfl rfl ⟨rfl, rfl, rfl, rfl, rfl⟩ rfl rfl rfl rfl rfl (by kernel_rfl) Try.func7 (by kernel_rfl)
    (of_decide_eq_true (by kernel_rfl)) (by unfold Func.isWrapper; first | (rw [if_pos (by decide +kernel)]; kernel_rfl) | (rw [if_neg (by decide +kernel)]; exact ⟨rfl, rfl⟩))
    (fun os started H enc _ => lifted os started H enc)

/-- ████ THE STATEMENT ████ -/
theorem proved : Rows.TreeCopiesSaid :=
  over
#print axioms proved
end Go.Proofs.Ythgdkaldnaeijaa.treeCopies
end
