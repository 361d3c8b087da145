/-
  Proved: of any three numbers and any acts, a copy goes on apart from the space that it was copied from, and both are the same just where they have the same in the same slots, with the same parents. No conditions.
-/
import Derived.Test.YtncpeemghnmakaaM12
import Derived.Test.YtncpeemghnmakaaRows
import Derived.WalkKit
import Derived.Below
import Derived.ChangeSame
import Derived.ProofKit
import Derived.OpenShut
section
namespace Go.Proofs
open Go.RowKit
set_option linter.unusedVariables false
set_option linter.unusedSimpArgs false

/-! ### Two pairs, apart, in blocks that were laid since w -/
structure Mid2 (w W : World) (a b : Nat) (s : Sp) (r : Rf) (m : Nat) (o v : Nat) (u : Sp) (q : Rf) (p : Nat) : Prop where
  ex : ∃ S T So Tv, SpAt W a S s ∧ RefAt W b T r ∧ SpAt W o So u ∧ RefAt W v Tv q ∧ (∀ k ∈ S ++ T, w.heap.size ≤ k) ∧ (∀ k ∈ So ++ Tv, w.heap.size ≤ k) ∧ (∀ k ∈ S ++ T, k ∉ So ++ Tv)
  chg : Chg [] w W
  both : Both s r m
  both2 : Both u q p
  shp : Shp s u
section
variable {w W W' : World} {a b o v m p : Nat} {s u : Sp} {r q : Rf}
theorem Mid2.quiet (h : Mid2 w W a b s r m o v u q p) (hc : Chg [] W W') : Mid2 w W' a b s r m o v u q p := by
  obtain ⟨⟨S, T, So, Tv, h1, h2, h3, h4, h5, h6, h7⟩, h8, h9, h10, h11⟩ := h
  exact ⟨⟨S, T, So, Tv, h1.quiet hc, h2.quiet hc, h3.quiet hc, h4.quiet hc, h5, h6, h7⟩, h8.then hc, h9, h10, h11⟩
theorem Mid2.symm (h : Mid2 w W a b s r m o v u q p) : Mid2 w W o v u q p a b s r m := by
  obtain ⟨⟨S, T, So, Tv, h1, h2, h3, h4, h5, h6, h7⟩, h8, h9, h10, g1, g2, g3⟩ := h
  exact ⟨⟨So, Tv, S, T, h3, h4, h1, h2, h6, h5, fun k hk hh => h7 k hh hk⟩, h8, h10, h9, g1.symm, g2.symm, g3.symm⟩
theorem Mid2.do (h : Mid2 w W a b s r m o v u q p) (hm : m ≤ 1000000) {t : ActC} (ht : t.Fits) :
    Calls Try.prog 14 #[ptr a, ptr b, t.val] W fun e W' => e = .returned (.bool true) ∧ ∃ s' r', Mid2 w W' a b s' r' (m + 1) o v u q p := by
  obtain ⟨⟨S, T, So, Tv, h1, h2, h3, h4, h5, h6, h7⟩, h8, h9, h10, g1, g2, g3⟩ := h
  have hlo := h3.lt
  have hlv := h4.lt
  refine (do_any h1 h2 h9 hm ht).mono ?_
  rintro e W' ⟨rfl, s', r', ⟨S', T', a1, a2, a3, a4, a5⟩, hb, hs1, hs2, hs3⟩
  have mem : ∀ k, k ∈ S' ++ T' → k ∈ S ++ T ∨ W.heap.size ≤ k := fun k hk => by
    rcases List.mem_append.1 hk with h | h
    · exact (a3 k h).imp (List.mem_append_left _) id
    · exact (a4 k h).imp (List.mem_append_right _) id
  refine ⟨rfl, s', r', ⟨S', T', So, Tv, a1, a2, h3.chg a5 (fun k hk hh => h7 k hh (List.mem_append_left _ hk)), h4.chg a5 (fun k hk hh => h7 k hh (List.mem_append_right _ hk)), fun k hk => ?_, h6, fun k hk hh => ?_⟩, h8.trans a5 (fun k hk => .inr (h5 k hk)), hb, h10, g1.trans hs1.symm, g2.trans hs2.symm, g3.trans hs3.symm⟩
  · rcases mem k hk with h | h
    · exact h5 k h
    · exact Nat.le_trans h8.size h
  · rcases mem k hk with h | h
    · exact h7 k h hh
    · rcases List.mem_append.1 hh with hh | hh
      · have := hlo k hh; omega
      · have := hlv k hh; omega
theorem Mid2.do2 (h : Mid2 w W a b s r m o v u q p) (hm : p ≤ 1000000) {t : ActC} (ht : t.Fits) :
    Calls Try.prog 14 #[ptr o, ptr v, t.val] W fun e W' => e = .returned (.bool true) ∧ ∃ u' q', Mid2 w W' a b s r m o v u' q' (p + 1) :=
  (h.symm.do hm ht).mono fun e W' ⟨h1, u', q', h2⟩ => ⟨h1, u', q', h2.symm⟩
theorem Mid2.look1 (h : Mid2 w W a b s r m o v u q p) : Calls Try.prog 15 #[ptr a, ptr b] W fun e W' => e = .returned (.bool true) ∧ Mid2 w W' a b s r m o v u q p := by
  have hh := h
  obtain ⟨⟨S, T, So, Tv, h1, h2, h3, h4, h5, h6, h7⟩, h8, h9, h10, h11⟩ := h
  exact (same_look h1 h2 h9).mono fun e W' hq => ⟨hq.1, hh.quiet hq.2⟩
theorem Mid2.look2 (h : Mid2 w W a b s r m o v u q p) : Calls Try.prog 15 #[ptr o, ptr v] W fun e W' => e = .returned (.bool true) ∧ Mid2 w W' a b s r m o v u q p :=
  h.symm.look1.mono fun e W' hq => ⟨hq.1, hq.2.symm⟩
theorem Mid2.csame (h : Mid2 w W a b s r m o v u q p) {x : Bool} (hx : x = true ↔ s.SameP u) : Calls Try.prog 22 #[ptr a, ptr o] W fun e W' => e = .returned (.bool x) ∧ Mid2 w W' a b s r m o v u q p := by
  have hh := h
  obtain ⟨⟨S, T, So, Tv, h1, h2, h3, h4, h5, h6, h7⟩, h8, h9, h10, h11⟩ := h
  exact (ssame_any h1 h3 hx).mono fun e W' hq => ⟨hq.1, hh.quiet hq.2⟩
theorem Mid2.csame2 (h : Mid2 w W a b s r m o v u q p) {x : Bool} (hx : x = true ↔ u.SameP s) : Calls Try.prog 22 #[ptr o, ptr a] W fun e W' => e = .returned (.bool x) ∧ Mid2 w W' a b s r m o v u q p :=
  (h.symm.csame hx).mono fun e W' hq => ⟨hq.1, hq.2.symm⟩
theorem Mid2.known (h : Mid2 w W a b s r m o v u q p) : Calls Try.prog 12 #[] W fun e W' => e = .returned (.bool true) ∧ Mid2 w W' a b s r m o v u q p :=
  (known_any W).mono fun e W' hq => ⟨hq.1, h.quiet hq.2⟩
/-- The program's space is copied, then the document's. -/
theorem Mid.copies (h : Mid w W a b s r m) : Calls Try.prog 20 #[ptr a] W fun e W1 => ∃ o, e = .returned (ptr o) ∧ Calls Try.prog 26 #[ptr b] W1 fun e2 W2 => ∃ v, e2 = .returned (ptr v) ∧ Mid2 w W2 a b s r m o v s r m := by
  obtain ⟨S, T, h1, h2, h3, h4, h5, h6⟩ := h
  have hS := h1.lt
  have hT := h2.lt
  have hz := h5.size
  have h512 := h6.len512
  refine (scopy_any h1).mono ?_
  rintro e W1 ⟨o, So, rfl, b1, b2, b3⟩
  refine ⟨o, rfl, ?_⟩
  have hz1 := b3.size
  refine (rcopy_any (h2.quiet b3) (by omega)).mono ?_
  rintro e2 W2 ⟨v, Tv, rfl, d1, d2, d3⟩
  refine ⟨v, rfl, ⟨S, T, So, Tv, (h1.quiet b3).quiet d3, (h2.quiet b3).quiet d3, b1.quiet d3, d1, fun k hk => ?_, fun k hk => ?_, fun k hk hh => ?_⟩, (h5.then b3).then d3, h6, h6, rfl, rfl, rfl⟩
  · rcases List.mem_append.1 hk with h | h
    · exact h3 k h
    · exact h4 k h
  · rcases List.mem_append.1 hk with h | h
    · have := b2 k h; omega
    · have := d2 k h; omega
  · have h1 : k < W.heap.size := by
      rcases List.mem_append.1 hk with h | h
      · exact hS k h
      · exact hT k h
    rcases List.mem_append.1 hh with h | h
    · have := b2 k h; omega
    · have := d2 k h; omega
/-! ### Alike, as the document's lists tell it -/
theorem Both.ofL (hb : Both s r m) {j : Nat} {x : On} (hx : r.L[j]? = some x) : ∃ n, s.f ⟨x.g, x.s⟩ = some n ∧ s.capAt ⟨x.g, x.s⟩ = x.cap := by
  obtain ⟨id, hr⟩ := hb.rel
  obtain ⟨n, hn, rfl⟩ := (hr.mem x).1 (List.mem_of_getElem? hx)
  have hf := (hb.wf.at_ n hn).2.1
  have e : (⟨(ent s id n).g, (ent s id n).s⟩ : Pt) = (s.hd n).p := rfl
  rw [e]
  refine ⟨n, hf, ?_⟩
  unfold Sp.capAt
  rw [hf]
  rfl
theorem Mid2.alike (h : Mid2 w W a b s r m o v u q p) : (r.L.length = q.L.length ∧ ∀ (j : Nat) (x : On), r.L[j]? = some x → s.alikeB u ⟨x.g, x.s⟩ = true) ↔ s.SameP u := by
  obtain ⟨g1, g2, g3⟩ := h.shp
  have l1 := h.both.len
  have l2 := h.both2.len
  constructor
  · rintro ⟨h1, h2⟩
    refine ⟨g1.symm, g2.symm, by omega, by omega, fun pt n hf => ?_⟩
    rcases h.both.atO pt with ⟨hn, _⟩ | ⟨n', x, _, hx, _, hg, hs⟩
    · rw [hf] at hn; cases hn
    · have := h2 _ x hx
      rw [show (⟨x.g, x.s⟩ : Pt) = pt by rw [hg, hs]] at this
      exact this
  · intro hs
    refine ⟨by have := hs.len; omega, fun j x hx => ?_⟩
    obtain ⟨n, hf, _⟩ := h.both.ofL hx
    exact hs.all _ n hf
/-- So many of the first ones are alike, and both lists are as long. -/
def AlkTo (s u : Sp) (r q : Rf) (i : Nat) : Prop := r.L.length = q.L.length ∧ ∀ (j : Nat) (x : On), j < i → r.L[j]? = some x → s.alikeB u ⟨x.g, x.s⟩ = true
theorem AlkTo.zero : AlkTo s u r q 0 ↔ r.L.length = q.L.length := ⟨fun h => h.1, fun h => ⟨h, fun j x hj => by omega⟩⟩
theorem AlkTo.succ {i : Nat} {x : On} (hx : r.L[i]? = some x) (h : AlkTo s u r q i) : AlkTo s u r q (i + 1) ↔ s.alikeB u ⟨x.g, x.s⟩ = true :=
  ⟨fun k => k.2 i x (by omega) hx, fun k => ⟨h.1, fun j y hj hy => by
    by_cases e : j = i
    · subst e; rw [hx] at hy; cases hy; exact k
    · exact h.2 j y (by omega) hy⟩⟩
theorem Mid2.alk (h : Mid2 w W a b s r m o v u q p) {i : Nat} (hi : r.L.length ≤ i) : AlkTo s u r q i ↔ s.SameP u :=
  Iff.trans ⟨fun k => ⟨k.1, fun j x hx => k.2 j x (by have := (List.getElem?_eq_some_iff.1 hx).1; omega) hx⟩, fun k => ⟨k.1, fun j x _ hx => k.2 j x hx⟩⟩ h.alike
theorem Mid2.alk_no (h : Mid2 w W a b s r m o v u q p) {i : Nat} (hi : ¬ AlkTo s u r q i) : ¬ s.SameP u := fun hs => hi (by
  have := h.alike.2 hs
  exact ⟨this.1, fun j x _ hx => this.2 j x hx⟩)
/-- Is what is at a place of the one there in the other one, alike? As the law asks it. -/
theorem alike_not {pt : Pt} (h : u.f pt = none) : s.alikeB u pt = false := by unfold Sp.alikeB; rw [h]; rfl
theorem alike_asked {pt : Pt} {n : Nat} (h : u.f pt = some n) : s.alikeB u pt = (decide (u.capAt pt = s.capAt pt) && (((ptO (s.parAt pt)).g == (ptO (u.parAt pt)).g) && (((ptO (s.parAt pt)).s == (ptO (u.parAt pt)).s) && ((s.parAt pt).isSome == (u.parAt pt).isSome)))) := by
  unfold Sp.alikeB
  rw [h, ← par_eq]
  have e1 : decide (s.capAt pt = u.capAt pt) = decide (u.capAt pt = s.capAt pt) := by rw [decide_eq_decide]; exact eq_comm
  have e2 : decide (ptO (s.parAt pt) = ptO (u.parAt pt)) = (((ptO (s.parAt pt)).g == (ptO (u.parAt pt)).g) && ((ptO (s.parAt pt)).s == (ptO (u.parAt pt)).s)) := by
    obtain ⟨A, B⟩ := ptO (s.parAt pt)
    obtain ⟨C, D⟩ := ptO (u.parAt pt)
    rw [Bool.eq_iff_iff]
    simp
  rw [e1, e2]
  simp [Bool.and_assoc]
end
end Go.Proofs
end
section
namespace Go.Proofs
open Go.RowKit
set_option linter.unusedVariables false
set_option linter.unusedSimpArgs false
attribute [local go_sem] eql_ptr_nil neq_ptr_nil eql_nil_nil
set_option maxHeartbeats 25600000 in
set_option maxRecDepth 100000 in
theorem copies_any (n1 n2 n3 : Int) (V V2 V3 : Value) (acts acts2 acts3 : List ActC) (w : World) (hV : Acts w V acts) (hV2 : Acts w V2 acts2) (hV3 : Acts w V3 acts3) :
    Calls Try.prog 7 #[.int .i64 n1, .int .i64 n2, .int .i64 n3, V, V2, V3] w fun e w' => e = .returned (.bool true) ∧ Chg [] w w' := by
  have HK := Lib.hid known_any
  obtain ⟨A1, c1, rfl⟩ := hV.open_
  obtain ⟨A2, c2, rfl⟩ := hV2.open_
  obtain ⟨A3, c3, rfl⟩ := hV3.open_
  obtain ⟨m, hm⟩ : ∃ m, m = acts.length := ⟨_, rfl⟩
  obtain ⟨m2, hm2⟩ : ∃ m, m = acts2.length := ⟨_, rfl⟩
  obtain ⟨m3, hm3⟩ : ∃ m, m = acts3.length := ⟨_, rfl⟩
  rw [← hm] at hV ⊢
  rw [← hm2] at hV2 ⊢
  rw [← hm3] at hV3 ⊢
  have HV := Lib.hid hV
  have HV2 := Lib.hid hV2
  have HV3 := Lib.hid hV3
  clear hV hm hV2 hm2 hV3 hm3
  have HS := Lib.hid (small_any n1 n2 n3)
  cases hb : mayG n1 n2 n3 with
  | false =>
    have hsm : smallG n1 n2 n3 = false := by unfold smallG; rw [hb]; rfl
    rw [hsm] at HS
    have HB := Lib.hid (begin_no hb w)
    clear hb hsm
    go_enter Try.func7, Try.ntmps7
    go_wp2_with (first
      | (go_at_call 9; refine HB.out.mono ?_; rintro e w' ⟨rfl, rfl⟩)
      | (go_at_call 13; refine (HS.out _).mono ?_; rintro e w' ⟨rfl, rfl⟩)
      | (go_at_call 12; refine (HK.out _).mono ?_; rintro e w2 ⟨rfl, hc⟩; have HC := Lib.hid hc; clear hc))
    go_ret
    exact ⟨rfl, HC.out⟩
  | true =>
    obtain ⟨x, y, z, rfl, rfl, rfl, hx, hy, hz⟩ := mayG_nat hb
    have HB := Lib.hid (mid_begun hx hy hz w)
    obtain ⟨sm, hsm⟩ : ∃ b, b = smallG x y z := ⟨_, rfl⟩
    rw [← hsm] at HS
    clear hb hsm
    cases sm with
    | false =>
      go_enter Try.func7, Try.ntmps7
      go_wp2_with (first
        | (go_at_call 9; refine HB.out.mono ?_; rintro e w1 ⟨a, b, rfl, hM⟩; have HQ := Lib.hid hM; clear hM)
        | (go_at_call 13; refine (HS.out _).mono ?_; rintro e w' ⟨rfl, rfl⟩)
        | (go_at_call 12; refine HQ.out.known.mono ?_; rintro e w2 ⟨rfl, hq⟩; have HQ := Lib.hid hq; clear hq))
      go_ret
      exact ⟨rfl, HQ.out.chg⟩
    | true =>
      by_cases hm : (60 : Int) < (m : Int)
      · have dm : decide ((m : Int) > 60) = true := decide_eq_true hm
        have dm' : decide ((60 : Int) < (m : Int)) = true := decide_eq_true hm
        go_enter Try.func7, Try.ntmps7
        go_wp2_with (first
          | (go_at_call 9; refine HB.out.mono ?_; rintro e w1 ⟨a, b, rfl, hM⟩; have HQ := Lib.hid hM; clear hM)
          | (go_at_call 13; refine (HS.out _).mono ?_; rintro e w' ⟨rfl, rfl⟩)
          | (go_at_call 12; refine HQ.out.known.mono ?_; rintro e w2 ⟨rfl, hq⟩; have HQ := Lib.hid hq; clear hq))
        go_ret
        exact ⟨rfl, HQ.out.chg⟩
      have dm : decide ((m : Int) > 60) = false := decide_eq_false hm
      have dm' : decide ((60 : Int) < (m : Int)) = false := decide_eq_false hm
      by_cases hn : (30 : Int) < (m2 : Int)
      · have dn : decide ((m2 : Int) > 30) = true := decide_eq_true hn
        have dn' : decide ((30 : Int) < (m2 : Int)) = true := decide_eq_true hn
        go_enter Try.func7, Try.ntmps7
        go_wp2_with (first
          | (go_at_call 9; refine HB.out.mono ?_; rintro e w1 ⟨a, b, rfl, hM⟩; have HQ := Lib.hid hM; clear hM)
          | (go_at_call 13; refine (HS.out _).mono ?_; rintro e w' ⟨rfl, rfl⟩)
          | (go_at_call 12; refine HQ.out.known.mono ?_; rintro e w2 ⟨rfl, hq⟩; have HQ := Lib.hid hq; clear hq))
        go_ret
        exact ⟨rfl, HQ.out.chg⟩
      have dn : decide ((m2 : Int) > 30) = false := decide_eq_false hn
      have dn' : decide ((30 : Int) < (m2 : Int)) = false := decide_eq_false hn
      by_cases hq : (30 : Int) < (m3 : Int)
      · have dq : decide ((m3 : Int) > 30) = true := decide_eq_true hq
        have dq' : decide ((30 : Int) < (m3 : Int)) = true := decide_eq_true hq
        go_enter Try.func7, Try.ntmps7
        go_wp2_with (first
          | (go_at_call 9; refine HB.out.mono ?_; rintro e w1 ⟨a, b, rfl, hM⟩; have HQ := Lib.hid hM; clear hM)
          | (go_at_call 13; refine (HS.out _).mono ?_; rintro e w' ⟨rfl, rfl⟩)
          | (go_at_call 12; refine HQ.out.known.mono ?_; rintro e w2 ⟨rfl, hq⟩; have HQ := Lib.hid hq; clear hq))
        go_ret
        exact ⟨rfl, HQ.out.chg⟩
      have dq : decide ((m3 : Int) > 30) = false := decide_eq_false hq
      have dq' : decide ((30 : Int) < (m3 : Int)) = false := decide_eq_false hq
      have km : m ≤ 60 := by omega
      have km2 : m2 ≤ 30 := by omega
      have km3 : m3 ≤ 30 := by omega
      clear hm hn hq
      go_enter Try.func7, Try.ntmps7
      go_wp2_with (first
        | (go_at_call 9; refine HB.out.mono ?_; rintro e w1 ⟨a, b, rfl, hM⟩; have HQ := Lib.hid hM; clear hM)
        | (go_at_call 13; refine (HS.out _).mono ?_; rintro e w' ⟨rfl, rfl⟩))
      go_loopg [15] m (fun gh iv wr => ∃ j : Nat, j + gh = m ∧ iv = .int .i64 j ∧ Hid (MidX w wr a b x y j))
      case atStart => exact ⟨0, by omega, rfl, HQ⟩
      case round =>
        obtain ⟨j, hj, rfl, HMI⟩ := hrel
        by_cases hlt : j < m
        · have j0 : (0 : Int) ≤ (j : Int) := by omega
          have j1 : (j : Int) < (m : Int) := by omega
          obtain ⟨bI, oI, xa, hA, hfit, hcells⟩ := HV.out.at_ hlt
          subst hA
          obtain ⟨z0, z1, z2, z3, z4, z5, z6, z7, z8, z9⟩ := hcells wr HMI.out.chg
          have HDO := Lib.hid (HMI.out.do (by omega) hfit)
          obtain ⟨kd, g, sl, tg, td, ⟨ck, ci, cg, cr⟩⟩ := xa
          simp only at z1 z2 z3 z4 z5 z6 z7 z8 z9
          clear HV hcells hfit
          go_wp2_with (first
            | (go_at_call 14; refine HDO.out.mono ?_; rintro e w4 ⟨rfl, hM'⟩; have HM' := Lib.hid hM'; clear hM'))
          go_roundg (m - j - 1)
          case measure => omega
          case rel => exact ⟨j + 1, by omega, by go_num, HM'⟩
        · have d1 : decide ((j : Int) < (m : Int)) = false := by simp; omega
          obtain rfl : j = m := by omega
          obtain ⟨s0, r0, hM, _, _⟩ := HMI.out
          have HCP := Lib.hid hM.copies
          clear hM HMI HQ HB HS HV
          go_wp2_with (first
            | (go_at_call 20; refine HCP.out.mono ?_; rintro e w1 ⟨o, rfl, hq⟩; have HVC := Lib.hid hq; clear hq)
            | (go_at_call 26; refine HVC.out.mono ?_; rintro e w2 ⟨v, rfl, hq⟩; have HQ := Lib.hid hq; clear hq)
            | (go_at_call 22; refine (HQ.out.csame2 (x := true) ⟨fun _ => Sp.SameP.refl s0, fun _ => rfl⟩).mono ?_; rintro e w3 ⟨rfl, hq⟩; have HQ := Lib.hid hq; clear hq))
          clear d1 hj hlt
          go_loopg [18] m2 (fun gh iv wq => ∃ k : Nat, k + gh = m2 ∧ iv = .int .i64 k ∧ Hid (∃ s r, Mid2 w wq a b s r (j + k) o v s0 r0 j))
          case atStart => exact ⟨0, by omega, rfl, Lib.hid ⟨s0, r0, HQ.out⟩⟩
          case round =>
            obtain ⟨k, hk, rfl, HI⟩ := hrel
            by_cases hlt : k < m2
            · have k0 : (0 : Int) ≤ (k : Int) := by omega
              have k1 : (k : Int) < (m2 : Int) := by omega
              obtain ⟨bI, oI, xa, hA, hfit, hcells⟩ := HV2.out.at_ hlt
              subst hA
              obtain ⟨s, r, hM⟩ := HI.out
              obtain ⟨z0, z1, z2, z3, z4, z5, z6, z7, z8, z9⟩ := hcells wr hM.chg
              have HDO := Lib.hid (hM.do (by omega) hfit)
              obtain ⟨kd, g, sl, tg, td, ⟨ck, ci, cg, cr⟩⟩ := xa
              simp only at z1 z2 z3 z4 z5 z6 z7 z8 z9
              clear HV2 hcells hfit hM
              go_wp2_with (first
                | (go_at_call 14; refine HDO.out.mono ?_; rintro e w4 ⟨rfl, hM'⟩; have HM' := Lib.hid hM'; clear hM'))
              go_roundg (m2 - k - 1)
              case measure => omega
              case rel => exact ⟨k + 1, by omega, by go_num, HM'⟩
            · have d1 : decide ((k : Int) < (m2 : Int)) = false := by simp; omega
              obtain rfl : k = m2 := by omega
              obtain ⟨s, r, hM0⟩ := HI.out
              have HM0 := Lib.hid hM0
              clear hM0 HI
              go_wp2
              clear d1 hk hlt
              go_loopg [19] m3 (fun gh iv wq => ∃ l : Nat, l + gh = m3 ∧ iv = .int .i64 l ∧ Hid (∃ u q, Mid2 w wq a b s r (j + k) o v u q (j + l)))
              case atStart => exact ⟨0, by omega, rfl, Lib.hid ⟨s0, r0, HM0.out⟩⟩
              case round =>
                obtain ⟨l, hl, rfl, HI⟩ := hrel
                by_cases hlt : l < m3
                · have l0 : (0 : Int) ≤ (l : Int) := by omega
                  have l1 : (l : Int) < (m3 : Int) := by omega
                  obtain ⟨bI, oI, xa, hA, hfit, hcells⟩ := HV3.out.at_ hlt
                  subst hA
                  obtain ⟨u, q, hM⟩ := HI.out
                  obtain ⟨z0, z1, z2, z3, z4, z5, z6, z7, z8, z9⟩ := hcells wr hM.chg
                  have HDO := Lib.hid (hM.do2 (by omega) hfit)
                  obtain ⟨kd, g, sl, tg, td, ⟨ck, ci, cg, cr⟩⟩ := xa
                  simp only at z1 z2 z3 z4 z5 z6 z7 z8 z9
                  clear HV3 hcells hfit hM
                  go_wp2_with (first
                    | (go_at_call 14; refine HDO.out.mono ?_; rintro e w4 ⟨rfl, hM'⟩; have HM' := Lib.hid hM'; clear hM'))
                  go_roundg (m3 - l - 1)
                  case measure => omega
                  case rel => exact ⟨l + 1, by omega, by go_num, HM'⟩
                · have d1 : decide ((l : Int) < (m3 : Int)) = false := by simp; omega
                  obtain rfl : l = m3 := by omega
                  obtain ⟨u, q, hM⟩ := HI.out
                  clear HI HM0 HV2 HV3 HCP HQ HVC
                  have HM := Lib.hid hM
                  obtain ⟨⟨S, T, So, Tv, _, hR, _, hU, _, _, _⟩, _, hb1, hb2, _⟩ := hM
                  obtain ⟨W5, hW5⟩ : ∃ W, W = wr := ⟨_, rfl⟩
                  rw [← hW5] at HM hR hU
                  have h512 := hb1.len512
                  have h513 := hb2.len512
                  obtain ⟨B1, cc1, _, _, hh1, hrow1, _⟩ := hR.head
                  obtain ⟨B2, cc2, _, _, hh2, hrow2, _⟩ := hU.head
                  have HH := Lib.hid (fun W (hc : Chg [] W5 W) => (⟨(hh1 W hc).2.2.2.1, (hh1 W hc).2.2.2.2.2.1, (hh2 W hc).2.2.2.1, (hh2 W hc).2.2.2.2.2.1⟩ : W.cell? ⟨b, 3, none⟩ = some (.slice B1 r.L.length cc1) ∧ b < W.heap.size ∧ W.cell? ⟨v, 3, none⟩ = some (.slice B2 q.L.length cc2) ∧ v < W.heap.size))
                  have HROW := Lib.hid hrow1
                  have HROW2 := Lib.hid hrow2
                  have FF := Lib.hid (fun W (hc : Chg [] W5 W) (p : Pt) => find_is (hU.quiet hc) (by omega) p)
                  have FP := Lib.hid (fun W (hc : Chg [] W5 W) (p : Pt) => (by have := rparent_any (hR.quiet hc) (by omega) p; rw [hb1.parAt] at this; exact this : Calls Try.prog 28 #[ptr b, .int .i64 p.g, .int .i64 p.s] W fun e w' => e = .returned (.tuple #[.int .i64 (ptO (s.parAt p)).g, .int .i64 (ptO (s.parAt p)).s, .bool (s.parAt p).isSome]) ∧ Chg [] W w'))
                  have FQ := Lib.hid (fun W (hc : Chg [] W5 W) (p : Pt) => (by have := rparent_any (hU.quiet hc) (by omega) p; rw [hb2.parAt] at this; exact this : Calls Try.prog 28 #[ptr v, .int .i64 p.g, .int .i64 p.s] W fun e w' => e = .returned (.tuple #[.int .i64 (ptO (u.parAt p)).g, .int .i64 (ptO (u.parAt p)).s, .bool (u.parAt p).isSome]) ∧ Chg [] W w'))
                  have HB1 := Lib.hid hb1
                  have HB2 := Lib.hid hb2
                  obtain ⟨N, hN⟩ : ∃ N, N = r.L.length := ⟨_, rfl⟩
                  obtain ⟨M, hMM⟩ : ∃ N, N = q.L.length := ⟨_, rfl⟩
                  have HN := Lib.hid hN
                  have HMM := Lib.hid hMM
                  rw [← hN, ← hMM] at HH
                  rw [← hN] at h512
                  rw [← hMM] at h513
                  obtain ⟨b3, lb, v3, lv⟩ := HH.out wr (by rw [hW5]; exact Chg.refl _ _)
                  obtain ⟨al0, hal⟩ : ∃ z, z = ((N : Int) == (M : Int)) := ⟨_, rfl⟩
                  have e1 := hal.symm
                  have HA0 := Lib.hid (show al0 = true ↔ AlkTo s u r q 0 from by rw [AlkTo.zero, ← HN.out, ← HMM.out, hal, beq_iff_eq]; constructor <;> intro h <;> omega)
                  have HW := Lib.hid (show Chg [] W5 wr by rw [hW5]; exact Chg.refl _ _)
                  clear hh1 hh2 hrow1 hrow2 hR hU hb1 hb2 hN hMM hal hW5
                  go_wp2
                  go_quiet (fail)
                  go_wp2
                  clear e1 b3 lb v3 lv d1 hl hlt
                  go_loopg [20, 21] N (fun gh al iv wq => ∃ (i : Nat) (z : Bool), i + gh = N ∧ iv = .int .i64 i ∧ al = .bool z ∧ Hid (Chg [] W5 wq ∧ (z = true ↔ AlkTo s u r q i)))
                  case atStart => exact ⟨0, al0, by omega, rfl, rfl, Lib.hid ⟨HW.out.drewN _, HA0.out⟩⟩
                  case round =>
                    obtain ⟨i, z, hi, rfl, rfl, HI⟩ := hrel
                    obtain ⟨b3, lb, v3, lv⟩ := HH.out wr HI.out.1
                    by_cases hlt : i < N
                    · have d1 : decide ((i : Int) < (N : Int)) = true := decide_eq_true (by omega)
                      have i0 : (0 : Int) ≤ (i : Int) := by omega
                      have i1 : (i : Int) < (N : Int) := by omega
                      cases z with
                      | false =>
                        have HX := Lib.hid (show false = true ↔ s.SameP u from ⟨(fun e => nomatch e), fun hs => absurd hs (HM.out.alk_no (fun h => by have := HI.out.2.2 h; cases this))⟩)
                        have HT := Lib.hid (HM.out.quiet HI.out.1)
                        have hzz : (false == false) = true := by simp
                        have t1 : True := trivial
                        go_wp2_with (first
                          | (go_at_call 15; have _t := t1; refine HT.out.look1.mono ?_; rintro e w6 ⟨rfl, hq⟩; have HT := Lib.hid hq; clear hq t1)
                          | (go_at_call 15; refine HT.out.look2.mono ?_; rintro e w7 ⟨rfl, hq⟩; have HT := Lib.hid hq; clear hq)
                          | (go_at_call 22; refine (HT.out.csame HX.out).mono ?_; rintro e w8 ⟨rfl, hq⟩; have HT := Lib.hid hq; clear hq)
                          | (go_at_call 12; refine HT.out.known.mono ?_; rintro e w9 ⟨rfl, hq⟩; have HT := Lib.hid hq; clear hq))
                        go_ret
                        exact ⟨rfl, HT.out.chg⟩
                      | true =>
                        have HAK := Lib.hid (HI.out.2.1 rfl)
                        have HC := Lib.hid HI.out.1
                        clear HI
                        obtain ⟨xe0, hx⟩ : ∃ x, r.L[i]? = some x := ⟨_, List.getElem?_eq_getElem (by rw [← HN.out]; exact hlt)⟩
                        have HSUC := Lib.hid (AlkTo.succ hx HAK.out)
                        obtain ⟨nf, hnf, hcap⟩ := HB1.out.ofL hx
                        obtain ⟨g1, rfl, hgb, hcell⟩ := HROW.out i xe0 hx
                        obtain ⟨lg, _, x0, x1, x2, x3, x4, x5, x6, x7⟩ := hcell wr HC.out
                        obtain ⟨xi, xp, xg, xs, ⟨xk, xx, xe, xr⟩⟩ := xe0
                        simp only at x0 x1 x2 x3 x4 x5 x6 x7 hcap HSUC hnf
                        have HBX := Lib.hid (Blk.new wr 66 #[.int .i64 (xi : Nat), .int .i64 (xp : Nat), .int .i64 xg, .int .i64 xs, .int .i64 xk, .int .i64 xx, .int .u64 xe, .int .u8 (xr : Nat)])
                        have HC0 := Lib.hid (HC.out.alloc (.cells #[.int .i64 (xi : Nat), .int .i64 (xp : Nat), .int .i64 xg, .int .i64 xs, .int .i64 xk, .int .i64 xx, .int .u64 xe, .int .u8 (xr : Nat)] 66))
                        have HF := Lib.hid (FF.out _ HC0.out ⟨xg, xs⟩)
                        have HP := Lib.hid (FP.out _ HC0.out ⟨xg, xs⟩)
                        have HQ := Lib.hid (fun W hc => FQ.out W hc ⟨xg, xs⟩)
                        have t1 : True := trivial
                        rcases q.fI_cases ⟨xg, xs⟩ with ⟨hat, hfi⟩ | ⟨ye, hat, hfi, hfl, _⟩
                        · rw [hfi] at HF
                          have hun : u.f ⟨xg, xs⟩ = none := by
                            rcases HB2.out.atO ⟨xg, xs⟩ with ⟨h, _⟩ | ⟨_, _, _, h, _⟩
                            · exact h
                            · rw [hat] at h; cases h
                          have HSN := Lib.hid (show false = true ↔ AlkTo s u r q (i + 1) from by rw [HSUC.out, alike_not hun])
                          obtain ⟨⟨P, Q⟩, hp⟩ : ∃ p, p = ptO (s.parAt ⟨xg, xs⟩) := ⟨_, rfl⟩
                          obtain ⟨B, hB⟩ : ∃ p, p = (s.parAt ⟨xg, xs⟩).isSome := ⟨_, rfl⟩
                          rw [← hp, ← hB] at HP
                          obtain ⟨⟨P2, Q2⟩, hp2⟩ : ∃ p, p = ptO (u.parAt ⟨xg, xs⟩) := ⟨_, rfl⟩
                          obtain ⟨BB, hBB⟩ : ∃ p, p = (u.parAt ⟨xg, xs⟩).isSome := ⟨_, rfl⟩
                          rw [← hp2, ← hBB] at HQ
                          have n1 : decide ((-1 : Int) ≥ 0) = false := by decide
                          clear hcell hx hat hfi hun hnf hcap hp hB hp2 hBB HSUC HAK FF FP FQ
                          go_wp2_with (first
                            | (go_at_call 27; refine HF.out.mono ?_; rintro e w' ⟨rfl, rfl⟩)
                            | (go_at_call 28; have _t := t1; refine HP.out.mono ?_; rintro e w1 ⟨rfl, hc⟩; have hbx := HBX.out.quiet hc; have y2 := hbx.cell 2; have y3 := hbx.cell 3; have lx := hbx.lt; simp only [List.getElem?_toArray, List.getElem?_cons_succ, List.getElem?_cons_zero] at y2 y3; have HC1 := Lib.hid (HC0.out.then hc); have HBX := Lib.hid hbx; clear hc hbx t1)
                            | (go_at_call 28; refine (HQ.out _ HC1.out).mono ?_; rintro e w2 ⟨rfl, hc⟩; have hbx := HBX.out.quiet hc; have y4 := hbx.cell 4; have y5 := hbx.cell 5; have y6 := hbx.cell 6; have y7 := hbx.cell 7; have lx2 := hbx.lt; simp only [List.getElem?_toArray, List.getElem?_cons_succ, List.getElem?_cons_zero] at y4 y5 y6 y7; have HC2 := Lib.hid (HC1.out.then hc); clear hc hbx))
                          go_quiet (fail)
                          go_wp2
                          go_roundg (N - i - 1)
                          case measure => omega
                          case rel => exact ⟨i + 1, false, by omega, by go_num, rfl, Lib.hid ⟨HC2.out.drewN _, HSN.out⟩⟩
                        · rw [hfi] at HF
                          obtain ⟨nu, hun, hcu⟩ : ∃ nu, u.f ⟨xg, xs⟩ = some nu ∧ u.capAt ⟨xg, xs⟩ = ye.cap := by
                            rcases HB2.out.atO ⟨xg, xs⟩ with ⟨_, h⟩ | ⟨nu, y9, h1, h2, h3, _⟩
                            · rw [hat] at h; cases h
                            · rw [hat] at h2
                              cases h2
                              refine ⟨nu, h1, ?_⟩
                              unfold Sp.capAt
                              rw [h1, h3]
                          obtain ⟨g2, rfl, hgb2, hcell2⟩ := HROW2.out _ ye hat
                          obtain ⟨D, hD⟩ : ∃ D, D = q.fd ⟨xg, xs⟩ := ⟨_, rfl⟩
                          rw [← hD] at HF hfl hcell2
                          rw [← HMM.out] at hfl
                          have HY := Lib.hid (fun W (hc : Chg [] W5 W) => (⟨(HH.out W hc).2.2.1, (HH.out W hc).2.2.2, (hcell2 W hc).1, (hcell2 W hc).2.2.2.2.2.2⟩ : W.cell? ⟨v, 3, none⟩ = some (.slice (some ⟨g2, 0, none⟩) M cc2) ∧ v < W.heap.size ∧ g2 < W.heap.size ∧ W.cell? ⟨g2, D * 8 + 4, none⟩ = some (.int .i64 ye.cap.kind) ∧ W.cell? ⟨g2, D * 8 + 5, none⟩ = some (.int .i64 ye.cap.idx) ∧ W.cell? ⟨g2, D * 8 + 6, none⟩ = some (.int .u64 ye.cap.gen) ∧ W.cell? ⟨g2, D * 8 + 7, none⟩ = some (.int .u8 ye.cap.rts)))
                          obtain ⟨yi, yp, yg, ys, ⟨yk, yx, yz, yr⟩⟩ := ye
                          simp only at HY hcu
                          have D0 : (0 : Int) ≤ (D : Int) := by omega
                          have D1 : (D : Int) < (M : Int) := by omega
                          have n1 : decide ((D : Int) ≥ 0) = true := decide_eq_true (by omega)
                          obtain ⟨c1, hc1⟩ : ∃ c, c = decide ((⟨yk, yx, yz, yr⟩ : Cp) = ⟨xk, xx, xe, xr⟩) := ⟨_, rfl⟩
                          have heq : ∀ W, (binOp .eql 39 (.agg #[.int .i64 yk, .int .i64 yx, .int .u64 yz, .int .u8 (yr : Nat)]) (.agg #[.int .i64 xk, .int .i64 xx, .int .u64 xe, .int .u8 (xr : Nat)])).run Try.prog W = .ok (.bool c1) W := fun W => by
                            have := eql_cap ⟨yk, yx, yz, yr⟩ ⟨xk, xx, xe, xr⟩ W
                            rw [← hc1] at this
                            exact this
                          have hal := alike_asked (s := s) hun
                          rw [hcu, hcap, ← hc1] at hal
                          obtain ⟨⟨P, Q⟩, hp⟩ : ∃ p, p = ptO (s.parAt ⟨xg, xs⟩) := ⟨_, rfl⟩
                          obtain ⟨B, hB⟩ : ∃ p, p = (s.parAt ⟨xg, xs⟩).isSome := ⟨_, rfl⟩
                          rw [← hp, ← hB] at HP hal
                          obtain ⟨⟨P2, Q2⟩, hp2⟩ : ∃ p, p = ptO (u.parAt ⟨xg, xs⟩) := ⟨_, rfl⟩
                          obtain ⟨BB, hBB⟩ : ∃ p, p = (u.parAt ⟨xg, xs⟩).isSome := ⟨_, rfl⟩
                          rw [← hp2, ← hBB] at HQ hal
                          simp only at hal
                          obtain ⟨c2, hc2⟩ : ∃ c, c = (P == P2) := ⟨_, rfl⟩
                          obtain ⟨c3, hc3⟩ : ∃ c, c = (Q == Q2) := ⟨_, rfl⟩
                          obtain ⟨c4, hc4⟩ : ∃ c, c = (B == BB) := ⟨_, rfl⟩
                          rw [← hc2, ← hc3, ← hc4] at hal
                          have f2 := hc2.symm
                          have f3 := hc3.symm
                          have f4 := hc4.symm
                          have HSN := Lib.hid (show (c1 && (c2 && (c3 && c4))) = true ↔ AlkTo s u r q (i + 1) from by rw [HSUC.out, hal])
                          clear hcell hcell2 hx hat hfi hun hcu hnf hcap hp hB hp2 hBB hal hc1 hc2 hc3 hc4 HSUC HAK FF FP FQ hD
                          cases c1 with
                          | false =>
                            go_wp2_with (first
                              | (go_at_call 27; refine HF.out.mono ?_; rintro e w' ⟨rfl, rfl⟩)
                              | (go_at_call 28; have _t := t1; refine HP.out.mono ?_; rintro e w1 ⟨rfl, hc⟩; have hbx := HBX.out.quiet hc; have y2 := hbx.cell 2; have y3 := hbx.cell 3; have lx := hbx.lt; simp only [List.getElem?_toArray, List.getElem?_cons_succ, List.getElem?_cons_zero] at y2 y3; have HC1 := Lib.hid (HC0.out.then hc); have HBX := Lib.hid hbx; clear hc hbx t1)
                              | (go_at_call 28; refine (HQ.out _ HC1.out).mono ?_; rintro e w2 ⟨rfl, hc⟩; have hbx := HBX.out.quiet hc; have y4 := hbx.cell 4; have y5 := hbx.cell 5; have y6 := hbx.cell 6; have y7 := hbx.cell 7; have lx2 := hbx.lt; simp only [List.getElem?_toArray, List.getElem?_cons_succ, List.getElem?_cons_zero] at y4 y5 y6 y7; have HC2 := Lib.hid (HC1.out.then hc); obtain ⟨w3, lv3, lg3, p4, p5, p6, p7⟩ := HY.out _ HC2.out; clear hc hbx))
                            go_quiet (fail)
                            go_wp2
                            go_roundg (N - i - 1)
                            case measure => omega
                            case rel => exact ⟨i + 1, false, by omega, by go_num, rfl, Lib.hid ⟨HC2.out.drewN _, by simpa using HSN.out⟩⟩
                          | true =>
                            cases c2 with
                            | false =>
                              go_wp2_with (first
                                | (go_at_call 27; refine HF.out.mono ?_; rintro e w' ⟨rfl, rfl⟩)
                                | (go_at_call 28; have _t := t1; refine HP.out.mono ?_; rintro e w1 ⟨rfl, hc⟩; have hbx := HBX.out.quiet hc; have y2 := hbx.cell 2; have y3 := hbx.cell 3; have lx := hbx.lt; simp only [List.getElem?_toArray, List.getElem?_cons_succ, List.getElem?_cons_zero] at y2 y3; have HC1 := Lib.hid (HC0.out.then hc); have HBX := Lib.hid hbx; clear hc hbx t1)
                                | (go_at_call 28; refine (HQ.out _ HC1.out).mono ?_; rintro e w2 ⟨rfl, hc⟩; have hbx := HBX.out.quiet hc; have y4 := hbx.cell 4; have y5 := hbx.cell 5; have y6 := hbx.cell 6; have y7 := hbx.cell 7; have lx2 := hbx.lt; simp only [List.getElem?_toArray, List.getElem?_cons_succ, List.getElem?_cons_zero] at y4 y5 y6 y7; have HC2 := Lib.hid (HC1.out.then hc); obtain ⟨w3, lv3, lg3, p4, p5, p6, p7⟩ := HY.out _ HC2.out; clear hc hbx))
                              go_quiet (fail)
                              go_wp2
                              go_roundg (N - i - 1)
                              case measure => omega
                              case rel => exact ⟨i + 1, false, by omega, by go_num, rfl, Lib.hid ⟨HC2.out.drewN _, by simpa using HSN.out⟩⟩
                            | true =>
                              cases c3 with
                              | false =>
                                go_wp2_with (first
                                  | (go_at_call 27; refine HF.out.mono ?_; rintro e w' ⟨rfl, rfl⟩)
                                  | (go_at_call 28; have _t := t1; refine HP.out.mono ?_; rintro e w1 ⟨rfl, hc⟩; have hbx := HBX.out.quiet hc; have y2 := hbx.cell 2; have y3 := hbx.cell 3; have lx := hbx.lt; simp only [List.getElem?_toArray, List.getElem?_cons_succ, List.getElem?_cons_zero] at y2 y3; have HC1 := Lib.hid (HC0.out.then hc); have HBX := Lib.hid hbx; clear hc hbx t1)
                                  | (go_at_call 28; refine (HQ.out _ HC1.out).mono ?_; rintro e w2 ⟨rfl, hc⟩; have hbx := HBX.out.quiet hc; have y4 := hbx.cell 4; have y5 := hbx.cell 5; have y6 := hbx.cell 6; have y7 := hbx.cell 7; have lx2 := hbx.lt; simp only [List.getElem?_toArray, List.getElem?_cons_succ, List.getElem?_cons_zero] at y4 y5 y6 y7; have HC2 := Lib.hid (HC1.out.then hc); obtain ⟨w3, lv3, lg3, p4, p5, p6, p7⟩ := HY.out _ HC2.out; clear hc hbx))
                                go_quiet (fail)
                                go_wp2
                                go_roundg (N - i - 1)
                                case measure => omega
                                case rel => exact ⟨i + 1, false, by omega, by go_num, rfl, Lib.hid ⟨HC2.out.drewN _, by simpa using HSN.out⟩⟩
                              | true =>
                                go_wp2_with (first
                                  | (go_at_call 27; refine HF.out.mono ?_; rintro e w' ⟨rfl, rfl⟩)
                                  | (go_at_call 28; have _t := t1; refine HP.out.mono ?_; rintro e w1 ⟨rfl, hc⟩; have hbx := HBX.out.quiet hc; have y2 := hbx.cell 2; have y3 := hbx.cell 3; have lx := hbx.lt; simp only [List.getElem?_toArray, List.getElem?_cons_succ, List.getElem?_cons_zero] at y2 y3; have HC1 := Lib.hid (HC0.out.then hc); have HBX := Lib.hid hbx; clear hc hbx t1)
                                  | (go_at_call 28; refine (HQ.out _ HC1.out).mono ?_; rintro e w2 ⟨rfl, hc⟩; have hbx := HBX.out.quiet hc; have y4 := hbx.cell 4; have y5 := hbx.cell 5; have y6 := hbx.cell 6; have y7 := hbx.cell 7; have lx2 := hbx.lt; simp only [List.getElem?_toArray, List.getElem?_cons_succ, List.getElem?_cons_zero] at y4 y5 y6 y7; have HC2 := Lib.hid (HC1.out.then hc); obtain ⟨w3, lv3, lg3, p4, p5, p6, p7⟩ := HY.out _ HC2.out; clear hc hbx))
                                go_quiet (fail)
                                go_wp2
                                go_roundg (N - i - 1)
                                case measure => omega
                                case rel => exact ⟨i + 1, c4, by omega, by go_num, rfl, Lib.hid ⟨HC2.out.drewN _, by simpa using HSN.out⟩⟩
                    · obtain rfl : i = N := by omega
                      have d1 : decide ((i : Int) < (i : Int)) = false := by simp
                      have HX := Lib.hid (show z = true ↔ s.SameP u from HI.out.2.trans (HM.out.alk (by rw [← HN.out]; exact Nat.le_refl _)))
                      have HT := Lib.hid (HM.out.quiet HI.out.1)
                      have hzz : (z == z) = true := by simp
                      have t1 : True := trivial
                      go_wp2_with (first
                        | (go_at_call 15; have _t := t1; refine HT.out.look1.mono ?_; rintro e w6 ⟨rfl, hq⟩; have HT := Lib.hid hq; clear hq t1)
                        | (go_at_call 15; refine HT.out.look2.mono ?_; rintro e w7 ⟨rfl, hq⟩; have HT := Lib.hid hq; clear hq)
                        | (go_at_call 22; refine (HT.out.csame HX.out).mono ?_; rintro e w8 ⟨rfl, hq⟩; have HT := Lib.hid hq; clear hq)
                        | (go_at_call 12; refine HT.out.known.mono ?_; rintro e w9 ⟨rfl, hq⟩; have HT := Lib.hid hq; clear hq))
                      go_ret
                      exact ⟨rfl, HT.out.chg⟩
end Go.Proofs
end
section
namespace Go.Proofs.Ytncpeemghnmakaa.cspaceCopies
open Go.ChangeShapes Go.WideShapes Go.ChangeAt Go.RowKit
set_option linter.unusedVariables false

theorem own : ownKnob Try.prog.godebug = none := by kernel_rfl

set_option maxRecDepth 100000 in
theorem lifted (os : Os) (started : os.Started) (H : Type) (enc : TypeId × Value → H) :
    ReturnsInHanded {} Try.checked os 7 .any (Rows.cspaceCopiesSpec.pre6 enc Try.prog Try.f7 Rows.cspaceCopiesRow.domain false) (Rows.cspaceCopiesSpec.post enc Try.prog Try.f7 false true false false) := by
  refine returnsInHanded_of_change (C := Try.checked) own started (by kernel_rfl) Try.func7
    (ChangeSpec.witness6 (enc := enc) (C := Try.checked) false ⟨#[], #[.int .i64 0, .int .i64 0, .int .i64 0, .slice none 0 0, .slice none 0 0, .slice none 0 0], []⟩ 8 (by kernel_rfl) (by kernel_rfl) (by kernel_rfl) (by kernel_rfl)) ?_
  intro W base args ds gs before hval0 hW hcnd _
  have hval : ∀ (j : Nat) t v, Try.f7.params[j]? = some t → args[j]? = some v → Value.okWide Try.prog W .any base t v := hval0
  have hW' := hW
  obtain ⟨p, q, hA0, hV, rfl, hfz, hnd⟩ := hW
  have hA : DataW.TrodAll enc Try.prog W 0 (fun _ => true) true Try.f7.params.toList args.toList ds p := hA0
  rw [Try.params7] at hA hval
  obtain ⟨v0, vs0, d0, ds0, p0, q0, hargs, rfl, rfl, h0, r0⟩ := trodAll_cons hA
  obtain ⟨v1, vs1, d1, ds1, p1, q1, rfl, rfl, rfl, h1, r1⟩ := trodAll_cons r0
  obtain ⟨v2, vs2, d2, ds2, p2, q2, rfl, rfl, rfl, h2, r2⟩ := trodAll_cons r1
  obtain ⟨v3, vs3, d3, ds3, p3, q3, rfl, rfl, rfl, h3, r3⟩ := trodAll_cons r2
  obtain ⟨v4, vs4, d4, ds4, p4, q4, rfl, rfl, rfl, h4, r4⟩ := trodAll_cons r3
  obtain ⟨v5, vs5, d5, ds5, p5, q5, rfl, rfl, rfl, h5, r5⟩ := trodAll_cons r4
  obtain ⟨rfl, rfl, rfl⟩ := trodAll_nil r5
  obtain rfl : args = #[v0, v1, v2, v3, v4, v5] := by cases args; simp_all
  obtain ⟨rfl, rfl⟩ := trodVars_none hV
  obtain ⟨a0, rfl, rfl, rfl, w0⟩ := open_int Try.underlying3 (hval 0 3 v0 rfl rfl) h0
  obtain ⟨a1, rfl, rfl, rfl, w1⟩ := open_int Try.underlying3 (hval 1 3 v1 rfl rfl) h1
  obtain ⟨a2, rfl, rfl, rfl, w2⟩ := open_int Try.underlying3 (hval 2 3 v2 rfl rfl) h2
  clear hA0 hval0
  simp only [List.append_nil, List.nil_append] at hW'
  obtain ⟨b0, c0⟩ := bounds_i64 w0
  obtain ⟨b1, c1⟩ := bounds_i64 w1
  obtain ⟨b2, c2⟩ := bounds_i64 w2
  have hlt3 : ∀ x ∈ p3, x.block < W.heap.size := fun x hx => hW'.lt x (by simp [hx])
  obtain ⟨l3, hl3⟩ := open_acts (hval 3 22 v3 rfl rfl) h3
  have hlt4 : ∀ x ∈ p4, x.block < W.heap.size := fun x hx => hW'.lt x (by simp [hx])
  obtain ⟨l4, hl4⟩ := open_acts (hval 4 22 v4 rfl rfl) h4
  have hlt5 : ∀ x ∈ p5, x.block < W.heap.size := fun x hx => hW'.lt x (by simp [hx])
  obtain ⟨l5, hl5⟩ := open_acts (hval 5 22 v5 rfl rfl) h5
  refine (copies_any _ _ _ _ _ _ _ _ _ W hl3 hl4 hl5).mono fun e W' ⟨he, hc⟩ => ?_
  have hg := hc.to_below
  subst he
  exact ⟨_, rfl, post_of_below (pa := ([] ++ ([] ++ ([] ++ (p3 ++ (p4 ++ (p5 ++ []))))))) (pv := []) hW' (fun _ _ _ => (trodAll_cons_mk (shut_bool Try.underlying4 _) trodAll_mk0)) (fun sp hsp => (trodAll_cons_mk (shut_int Try.underlying3 w0) (trodAll_cons_mk (shut_int Try.underlying3 w1) (trodAll_cons_mk (shut_int Try.underlying3 w2) (trodAll_cons_mk (WideElems.Trod_stays Try.laidOut (by kernel_rfl) (of_decide_eq_true (by kernel_rfl)) h3 (fun x hx => hg.same (hlt3 x hx)) (fun x hx => hsp x (by simp [hx]))) (trodAll_cons_mk (WideElems.Trod_stays Try.laidOut (by kernel_rfl) (of_decide_eq_true (by kernel_rfl)) h4 (fun x hx => hg.same (hlt4 x hx)) (fun x hx => hsp x (by simp [hx]))) (trodAll_cons_mk (WideElems.Trod_stays Try.laidOut (by kernel_rfl) (of_decide_eq_true (by kernel_rfl)) h5 (fun x hx => hg.same (hlt5 x hx)) (fun x hx => hsp x (by simp [hx]))) trodAll_mk0))))))) (fun _ _ => rfl) (by simp)
    hg (ok_one (by kernel_rfl) rfl (okWide_bool_mk Try.underlying4 _))⟩

theorem over : Rows.cspaceCopiesRow.holds Try.pinned (OpenSpec.ofChange Rows.cspaceCopiesSpec) :=
  OpenClaim.holds_of_wide 7 Try.f7 rfl rfl rfl rfl rfl rfl rfl ⟨rfl, rfl, rfl, rfl, rfl⟩ rfl rfl rfl rfl rfl (by kernel_rfl) Try.func7 (by kernel_rfl)
    (of_decide_eq_true (by kernel_rfl)) (by unfold Func.isWrapper; first | (rw [if_pos (by decide +kernel)]; kernel_rfl) | (rw [if_neg (by decide +kernel)]; exact ⟨rfl, rfl⟩))
    (fun os started H enc _ => lifted os started H enc)

/-- ████ THE STATEMENT ████ -/
theorem proved : Rows.CspaceCopiesSaid :=
  over
#print axioms proved
end Go.Proofs.Ytncpeemghnmakaa.cspaceCopies
end
