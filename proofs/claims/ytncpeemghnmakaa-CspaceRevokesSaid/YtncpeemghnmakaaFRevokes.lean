/-
  Proved: of any three numbers, any acts and any slot, behind these acts a revoke of that slot leaves nothing under it, and all else as it was; and it tells how many went. No conditions.
-/
import Derived.Test.YtncpeemghnmakaaM12
import Derived.Test.YtncpeemghnmakaaRows
import Derived.WalkKit
import Derived.Below
import Derived.ChangeSame
import Derived.ProofKit
import Derived.OpenShut
section
namespace Go.Proofs
open Go.RowKit
set_option linter.unusedVariables false
set_option linter.unusedSimpArgs false

/-! ### What a revocation leaves, place by place -/
section
variable {s : Sp} {n : Nat} {l : List Nat}
theorem pruned_kidless {t : Fo} {n : Nat} {l : List Nat} {k : Nat} (h : Anc (t.prune n l) n k) : False := by
  have hk : (t.prune n l).kids n = [] := by show (if n = n ∨ n ∈ l then [] else t.kids n) = []; rw [if_pos (.inl rfl)]
  have key : ∀ {a k : Nat}, Anc (t.prune n l) a k → a = n → False := by
    intro a k h
    induction h with
    | kid hm => intro e; subst e; rw [hk] at hm; cases hm
    | step hm h2 ih => exact ih
  exact key h rfl
theorem Sp.pruned_not (hw : s.WF) (ht : s.t.WF) (hl : Pre s.t (s.t.kids n) l) {q : Pt} (hq : s.f q = some n) (p : Pt) : ¬ (s.prune n l).Und p q := fun ⟨k, m, h1, h2, h3⟩ => by
  obtain ⟨k1, _, _⟩ := hw.lv ht hl
  rw [k1, hq] at h2
  simp only at h2
  split at h2
  · cases h2
  · cases h2
    exact pruned_kidless h3
/-- One that was below is gone. -/
theorem Sp.pruned_below (hw : s.WF) (ht : s.t.WF) (hl : Pre s.t (s.t.kids n) l) {q : Pt} (hq : s.f q = some n) {p : Pt} (h : s.Und p q) : (s.prune n l).fullE p = 10 := by
  obtain ⟨k, m, h1, h2, h3⟩ := h
  rw [hq] at h2
  cases h2
  obtain ⟨k1, _, _⟩ := hw.lv ht hl
  have hs := hw.slot_of h1
  unfold Sp.fullE
  rw [k1, h1, show (s.prune n l).slot p = s.slot p from rfl, hs]
  simp only
  rw [if_pos ((hl.desc k).2 h3)]
  rfl
/-- All else stays. -/
theorem Sp.pruned_stays (hw : s.WF) (ht : s.t.WF) (hl : Pre s.t (s.t.kids n) l) {q : Pt} (hq : s.f q = some n) {p : Pt} (h : ¬ s.Und p q) :
    (s.prune n l).fullE p = s.fullE p ∧ (s.prune n l).capAt p = s.capAt p ∧ (s.prune n l).parAt p = s.parAt p := by
  obtain ⟨k1, k2, _⟩ := hw.lv ht hl
  cases hf : s.f p with
  | none =>
    have hf2 : (s.prune n l).f p = none := by rw [k1, hf]
    unfold Sp.fullE Sp.capAt Sp.parAt
    rw [hf, hf2]
    exact ⟨rfl, rfl, rfl⟩
  | some k =>
    have hkl : k ∉ l := fun hm => h ⟨k, n, hf, hq, (hl.desc k).1 hm⟩
    have hf2 : (s.prune n l).f p = some k := by rw [k1, hf]; simp only; rw [if_neg hkl]
    have hkt := (hw.back p k hf).1
    refine ⟨?_, ?_, ?_⟩
    · unfold Sp.fullE; rw [hf, hf2]; rfl
    · unfold Sp.capAt; rw [hf, hf2]; simp only; rw [k2, if_neg hkl]
    · unfold Sp.parAt
      rw [hf, hf2]
      simp only
      have hp : (s.prune n l).t.par k = s.t.par k := by show (if k ∈ l then none else s.t.par k) = _; rw [if_neg hkl]
      rw [hp]
      cases hpk : s.t.par k with
      | none => rfl
      | some j =>
        simp only
        have hkid : k ∈ s.t.kids j := by have := ht.mem k hkt; rw [hpk] at this; exact this
        have hjl : j ∉ l := fun hm => hkl ((hl.desc k).2 (((hl.desc j).1 hm).trans (.kid hkid)))
        rw [k2, if_neg hjl]
/-! ### Counting those that went -/
theorem filt_same {P Q : Nat → Bool} {l : List Nat} (h : ∀ k ∈ l, P k = Q k) : (l.filter P).length = (l.filter Q).length := by rw [List.filter_congr h]
theorem filt_one {P Q : Nat → Bool} {k0 : Nat} : ∀ {l : List Nat}, l.Nodup → k0 ∈ l → P k0 = false → Q k0 = true → (∀ k ∈ l, k ≠ k0 → P k = Q k) → (l.filter Q).length = (l.filter P).length + 1
  | [], _, h, _, _, _ => nomatch h
  | a :: l, hn, hm, h1, h2, h3 => by
    obtain ⟨n1, n2⟩ := List.nodup_cons.1 hn
    by_cases e : a = k0
    · subst e
      rw [List.filter_cons_of_pos h2, List.filter_cons_of_neg (by rw [h1]; simp), List.length_cons, filt_same (fun k hk => (h3 k (by simp [hk]) (fun e2 => n1 (e2 ▸ hk))).symm)]
    · have hm2 : k0 ∈ l := by
        rcases List.mem_cons.1 hm with e2 | hm2
        · exact absurd e2.symm e
        · exact hm2
      have ih := filt_one (P := P) (Q := Q) n2 hm2 h1 h2 (fun k hk => h3 k (by simp [hk]))
      have ha := h3 a (by simp) e
      cases hq : Q a with
      | true => rw [hq] at ha; rw [List.filter_cons_of_pos hq, List.filter_cons_of_pos ha, List.length_cons, List.length_cons, ih]
      | false => rw [hq] at ha; rw [List.filter_cons_of_neg (by rw [hq]; simp), List.filter_cons_of_neg (by rw [ha]; simp), ih]
/-- How many of l stand ahead of a slot. -/
def cntL (s : Sp) (l : List Nat) (g sl : Nat) : Nat := (l.filter fun k => decide ((s.hd k).p.g < g ∨ ((s.hd k).p.g = g ∧ (s.hd k).p.s < sl))).length
section
variable (hw : s.WF) (ht : s.t.WF) (hl : Pre s.t (s.t.kids n) l) {q : Pt} (hq : s.f q = some n)
  include hw ht hl hq
theorem cnt_yes {g sl : Nat} (h : s.Und ⟨(g : Int), (sl : Int)⟩ q) : cntL s l g (sl + 1) = cntL s l g sl + 1 := by
  obtain ⟨k, m, h1, h2, h3⟩ := h
  rw [hq] at h2
  cases h2
  have hkl := (hl.desc k).2 h3
  have hp := (hw.back _ k h1).2
  refine filt_one (k0 := k) (hl.desc_nodup ht) hkl ?_ ?_ (fun j hj hne => ?_)
  · rw [decide_eq_false_iff_not, hp]; simp
  · rw [decide_eq_true_iff, hp]; exact .inr ⟨rfl, by show (sl : Int) < ((sl + 1 : Nat) : Int); omega⟩
  · have hjt := (((hl.desc j).1 hj).there ht).2
    have hne2 : (s.hd j).p ≠ ⟨(g : Int), (sl : Int)⟩ := fun e => hne (hw.inj hjt (hw.back _ k h1).1 (by rw [e, hp]))
    have hne3 : ¬ ((s.hd j).p.g = g ∧ (s.hd j).p.s = sl) := fun ⟨e1, e2⟩ => hne2 (by cases hh : (s.hd j).p with | mk a b => rw [hh] at e1 e2; simp only at e1 e2; rw [e1, e2])
    congr 1
    apply propext
    omega
theorem cnt_no {g sl : Nat} (h : ¬ s.Und ⟨(g : Int), (sl : Int)⟩ q) : cntL s l g (sl + 1) = cntL s l g sl := by
  refine filt_same (fun j hj => ?_)
  have hjt := (((hl.desc j).1 hj).there ht).2
  have hne3 : ¬ ((s.hd j).p.g = g ∧ (s.hd j).p.s = sl) := fun ⟨e1, e2⟩ => h ⟨j, n, by
    have := (hw.at_ j hjt).2.1
    have e : (s.hd j).p = ⟨(g : Int), (sl : Int)⟩ := by cases hh : (s.hd j).p with | mk a b => rw [hh] at e1 e2; simp only at e1 e2; rw [e1, e2]
    rw [e] at this
    exact this, hq, (hl.desc j).1 hj⟩
  congr 1
  apply propext
  omega
  omit hq in
theorem cnt_row (g : Nat) : cntL s l (g + 1) 0 = cntL s l g s.slots := by
  refine filt_same (fun j hj => ?_)
  have hjt := (((hl.desc j).1 hj).there ht).2
  have := of_decide_eq_true (hw.at_ j hjt).1
  congr 1
  apply propext
  omega
  omit hq in
theorem cnt_end : cntL s l s.gs 0 = l.length := by
  unfold cntL
  rw [List.filter_eq_self.2 (fun j hj => ?_)]
  have hjt := (((hl.desc j).1 hj).there ht).2
  have := of_decide_eq_true (hw.at_ j hjt).1
  rw [decide_eq_true_iff]
  omega
  omit hq in
theorem cnt_zero : cntL s l 0 0 = 0 := by
  unfold cntL
  rw [List.length_eq_zero_iff, List.filter_eq_nil_iff]
  intro j hj
  have hjt := (((hl.desc j).1 hj).there ht).2
  have := of_decide_eq_true (hw.at_ j hjt).1
  rw [decide_eq_true_iff]
  omega
end
end
section
variable {w : World} {b : Nat} {T : List Nat} {s : Sp} {r : Rf} {m : Nat}
/-- The document tells of who is under whom as the program does. -/
theorem runder_any (H : RefAt w b T r) (hb : Both s r m) {p q : Pt} {x : Bool} (hx : x = true ↔ s.Und p q) : Calls Try.prog 24 #[ptr b, .int .i64 p.g, .int .i64 p.s, .int .i64 q.g, .int .i64 q.s] w fun e w' => e = .returned (.bool x) ∧ Chg [] w w' := by
  have hlen : r.L.length ≤ 10000 := by have := hb.len512; omega
  have hno : (s.f p = none ∨ s.f q = none) → x = false := fun h => by
    cases x with
    | false => rfl
    | true =>
      obtain ⟨n, k, h1, h2, _⟩ := hx.1 rfl
      rcases h with h | h
      · rw [h] at h1; cases h1
      · rw [h] at h2; cases h2
  cases hf : s.f p with
  | none =>
    rw [hno (.inl hf)]
    refine runder_no H hlen p q (.inl ?_)
    rcases hb.atO p with ⟨_, h⟩ | ⟨k, y, h, _⟩
    · exact h
    · rw [hf] at h; cases h
  | some n =>
    cases hg : s.f q with
    | none =>
      rw [hno (.inr hg)]
      refine runder_no H hlen p q (.inr ?_)
      rcases hb.atO q with ⟨_, h⟩ | ⟨k, y, h, _⟩
      · exact h
      · rw [hg] at h; cases h
    | some k =>
      obtain ⟨u, v, l, h1, h2, h3, h4, h5⟩ := hb.under hf hg
      refine runder_some H hlen p q h1 h2 h3 h4 (hx.trans (Iff.trans ?_ h5.symm))
      constructor
      · rintro ⟨n', k', e1, e2, ha⟩
        rw [hf] at e1
        rw [hg] at e2
        cases e1
        cases e2
        exact ha
      · intro ha
        exact ⟨n, k, hf, hg, ha⟩
end
end Go.Proofs
end
section
namespace Go.Proofs
open Go.RowKit
set_option linter.unusedVariables false
set_option linter.unusedSimpArgs false

/-! ### The program's space, its copy, and the document's -/
def R3 (w W : World) (a : Nat) (s : Sp) (o : Nat) (u : Sp) (b : Nat) (r : Rf) : Prop :=
  ∃ S So T, SpAt W a S s ∧ SpAt W o So u ∧ RefAt W b T r ∧ (∀ k ∈ S, w.heap.size ≤ k) ∧ (∀ k ∈ S, k ∉ So) ∧ Chg [] w W
section
variable {w W W' : World} {a o b : Nat} {s s' u : Sp} {r : Rf}
theorem R3.chg (h : R3 w W a s o u b r) : Chg [] w W := by obtain ⟨_, _, _, _, _, _, _, _, h⟩ := h; exact h
theorem R3.quiet (h : R3 w W a s o u b r) (hc : Chg [] W W') : R3 w W' a s o u b r := by
  obtain ⟨S, So, T, h1, h2, h3, h4, h5, h6⟩ := h
  exact ⟨S, So, T, h1.quiet hc, h2.quiet hc, h3.quiet hc, h4, h5, h6.then hc⟩
theorem R3.copy {S T : List Nat} (h1 : SpAt W a S s) (h3 : RefAt W b T r) (h4 : ∀ k ∈ S, w.heap.size ≤ k) (h6 : Chg [] w W) : Calls Try.prog 20 #[ptr a] W fun e W' => ∃ o, e = .returned (ptr o) ∧ R3 w W' a s o s b r := by
  have hlt := h1.lt
  refine (scopy_any h1).mono ?_
  rintro e W' ⟨o, So, rfl, q1, q2, q3⟩
  exact ⟨o, rfl, S, So, T, h1.quiet q3, q1, h3.quiet q3, h4, fun k hk hko => by have := hlt k hk; have := q2 k hko; omega, h6.then q3⟩
theorem R3.revoke (h : R3 w W a s o u b r) (p : Pt) {l : List Nat} (hl : s.Goes p l) (hs : s.revP p l = s') {z : Int} (hz : s.fullE p = z) : Calls Try.prog 21 #[ptr a, .int .i64 p.g, .int .i64 p.s] W fun e W' => e = .returned (.tuple #[.int .i64 (l.length : Nat), .int .i64 z]) ∧ R3 w W' a s' o u b r := by
  obtain ⟨S, So, T, h1, h2, h3, h4, h5, h6⟩ := h
  have hap := spaces_apart h1 h3
  have hlo := h2.lt
  rw [← hs, ← hz]
  refine (revoke_any h1 p hl).mono fun e W' hq => ⟨hq.1, ?_⟩
  obtain ⟨S', q1, q2, q3⟩ := hq.2
  refine ⟨S', So, T, q1, h2.chg q3 (fun k hk hkS => h5 k hkS hk), h3.chg q3 (fun k hk hkS => hap k hkS hk), fun k hk => ?_, fun k hk hko => ?_, h6.trans q3 (fun k hk => .inr (h4 k hk))⟩
  · rcases q2 k hk with h | h
    · exact h4 k h
    · exact Nat.le_trans h6.size h
  · rcases q2 k hk with h | h
    · exact h5 k h hko
    · have := hlo k hko; omega
theorem R3.same (h : R3 w W a s o u b r) {x : Bool} (hx : x = true ↔ s.SameP u) : Calls Try.prog 22 #[ptr a, ptr o] W fun e W' => e = .returned (.bool x) ∧ R3 w W' a s o u b r := by
  have hh := h
  obtain ⟨S, So, T, h1, h2, h3, h4, h5, h6⟩ := h
  exact (ssame_any h1 h2 hx).mono fun e W' hq => ⟨hq.1, hh.quiet hq.2⟩
theorem R3.known (h : R3 w W a s o u b r) : Calls Try.prog 12 #[] W fun e W' => e = .returned (.bool true) ∧ R3 w W' a s o u b r :=
  (known_any W).mono fun e W' hq => ⟨hq.1, h.quiet hq.2⟩
end
end Go.Proofs
end
section
namespace Go.Proofs
open Go.RowKit
set_option linter.unusedVariables false
set_option linter.unusedSimpArgs false
attribute [local go_sem] eql_ptr_nil neq_ptr_nil eql_nil_nil
set_option maxHeartbeats 25600000 in
set_option maxRecDepth 100000 in
theorem revokes_any (n1 n2 n3 : Int) (V : Value) (acts : List ActC) (g0 sl0 : Int) (w : World) (hV : Acts w V acts) :
    Calls Try.prog 5 #[.int .i64 n1, .int .i64 n2, .int .i64 n3, V, .int .i64 g0, .int .i64 sl0] w fun e w' => e = .returned (.bool true) ∧ Chg [] w w' := by
  have HK := Lib.hid known_any
  obtain ⟨A2, c2, rfl⟩ := hV.open_
  obtain ⟨m, hm⟩ : ∃ m, m = acts.length := ⟨_, rfl⟩
  rw [← hm] at hV ⊢
  have HV := Lib.hid hV
  clear hV hm
  have HS := Lib.hid (small_any n1 n2 n3)
  cases hb : mayG n1 n2 n3 with
  | false =>
    have hsm : smallG n1 n2 n3 = false := by unfold smallG; rw [hb]; rfl
    rw [hsm] at HS
    have HB := Lib.hid (begin_no hb w)
    clear hb hsm
    go_enter Try.func5, Try.ntmps5
    go_wp2_with (first
      | (go_at_call 9; refine HB.out.mono ?_; rintro e w' ⟨rfl, rfl⟩)
      | (go_at_call 13; refine (HS.out _).mono ?_; rintro e w' ⟨rfl, rfl⟩)
      | (go_at_call 12; refine (HK.out _).mono ?_; rintro e w2 ⟨rfl, hc⟩; have HC := Lib.hid hc; clear hc))
    go_ret
    exact ⟨rfl, HC.out⟩
  | true =>
    obtain ⟨x, y, z, rfl, rfl, rfl, hx, hy, hz⟩ := mayG_nat hb
    have HB := Lib.hid (mid_begun hx hy hz w)
    obtain ⟨sm, hsm⟩ : ∃ b, b = smallG x y z := ⟨_, rfl⟩
    rw [← hsm] at HS
    clear hb hsm
    cases sm with
    | false =>
      go_enter Try.func5, Try.ntmps5
      go_wp2_with (first
        | (go_at_call 9; refine HB.out.mono ?_; rintro e w1 ⟨a, b, rfl, hM⟩; have HQ := Lib.hid hM; clear hM)
        | (go_at_call 13; refine (HS.out _).mono ?_; rintro e w' ⟨rfl, rfl⟩)
        | (go_at_call 12; refine HQ.out.known.mono ?_; rintro e w2 ⟨rfl, hq⟩; have HQ := Lib.hid hq; clear hq))
      go_ret
      exact ⟨rfl, HQ.out.chg⟩
    | true =>
      by_cases hmx : (100 : Int) < (m : Int)
      · have d1 : decide ((m : Int) > 100) = true := decide_eq_true hmx
        have d1' : decide ((100 : Int) < (m : Int)) = true := decide_eq_true hmx
        go_enter Try.func5, Try.ntmps5
        go_wp2_with (first
          | (go_at_call 9; refine HB.out.mono ?_; rintro e w1 ⟨a, b, rfl, hM⟩; have HQ := Lib.hid hM; clear hM)
          | (go_at_call 13; refine (HS.out _).mono ?_; rintro e w' ⟨rfl, rfl⟩)
          | (go_at_call 12; refine HQ.out.known.mono ?_; rintro e w2 ⟨rfl, hq⟩; have HQ := Lib.hid hq; clear hq))
        go_ret
        exact ⟨rfl, HQ.out.chg⟩
      · have d1 : decide ((m : Int) > 100) = false := decide_eq_false hmx
        have d1' : decide ((100 : Int) < (m : Int)) = false := decide_eq_false hmx
        have hm2 : m ≤ 100 := by omega
        go_enter Try.func5, Try.ntmps5
        go_wp2_with (first
          | (go_at_call 9; refine HB.out.mono ?_; rintro e w1 ⟨a, b, rfl, hM⟩; have HQ := Lib.hid hM; clear hM)
          | (go_at_call 13; refine (HS.out _).mono ?_; rintro e w' ⟨rfl, rfl⟩))
        go_loopg [15] m (fun gh iv wr => ∃ j : Nat, j + gh = m ∧ iv = .int .i64 j ∧ Hid (MidX w wr a b x y j))
        case atStart => exact ⟨0, by omega, rfl, HQ⟩
        case round =>
          obtain ⟨j, hj, rfl, HMI⟩ := hrel
          by_cases hlt : j < m
          · have j0 : (0 : Int) ≤ (j : Int) := by omega
            have j1 : (j : Int) < (m : Int) := by omega
            obtain ⟨bI, oI, xa, hA, hfit, hcells⟩ := HV.out.at_ hlt
            subst hA
            obtain ⟨z0, z1, z2, z3, z4, z5, z6, z7, z8, z9⟩ := hcells wr HMI.out.chg
            have HDO := Lib.hid (HMI.out.do (by omega) hfit)
            obtain ⟨kd, g, sl, tg, td, ⟨ck, ci, cg, cr⟩⟩ := xa
            simp only at z1 z2 z3 z4 z5 z6 z7 z8 z9
            clear HV hcells hfit
            go_wp2_with (first
              | (go_at_call 14; refine HDO.out.mono ?_; rintro e w4 ⟨rfl, hM'⟩; have HM' := Lib.hid hM'; clear hM'))
            go_roundg (m - j - 1)
            case measure => omega
            case rel => exact ⟨j + 1, by omega, by go_num, HM'⟩
          · have d1 : decide ((j : Int) < (m : Int)) = false := by simp; omega
            obtain ⟨s, r, ⟨S, T, hsp, hrf, hfS, hfT, hch, hbo⟩, hsx, hsy⟩ := HMI.out
            have HCP := Lib.hid (R3.copy (w := w) hsp hrf hfS hch)
            have HBO := Lib.hid hbo
            obtain ⟨l, hl⟩ := Sp.Goes.exists hbo.twf ⟨g0, sl0⟩
            clear hsp hrf hfS hfT hch hbo HMI HQ HB HS HV
            cases hf : s.f ⟨g0, sl0⟩ with
            | none =>
              clear hsx hsy
              have hl0 : l = [] := by unfold Sp.Goes at hl; rw [hf] at hl; exact hl
              subst hl0
              have hz := Sp.full_none hf
              have hr1 : s.revP ⟨g0, sl0⟩ [] = s := by unfold Sp.revP; rw [hf]
              have HRV := Lib.hid (fun W o (h : R3 w W a s o s b r) => h.revoke ⟨g0, sl0⟩ hl hr1 (z := s.fullE ⟨g0, sl0⟩) rfl)
              have HS2 := Lib.hid (fun W o (h : R3 w W a s o s b r) => h.same (x := true) ⟨fun _ => Sp.SameP.refl s, fun _ => rfl⟩)
              obtain ⟨zz, hzz⟩ : ∃ zz, zz = s.fullE ⟨g0, sl0⟩ := ⟨_, rfl⟩
              rw [← hzz] at HRV hz
              have e1 : (zz != 0) = true := by simpa using hz
              clear hf hl hz hr1 hzz HBO
              go_wp2_with (first
                | (go_at_call 20; refine HCP.out.mono ?_; rintro e w1 ⟨o, rfl, hq⟩; have HQ := Lib.hid hq; clear hq)
                | (go_at_call 21; refine (HRV.out _ _ HQ.out).mono ?_; rintro e w2 ⟨rfl, hq⟩; have HQ := Lib.hid hq; clear hq)
                | (go_at_call 22; refine (HS2.out _ _ HQ.out).mono ?_; rintro e w6 ⟨rfl, hq⟩; have HQ := Lib.hid hq; clear hq)
                | (go_at_call 12; refine HQ.out.known.mono ?_; rintro e w7 ⟨rfl, hq⟩; have HQ := Lib.hid hq; clear hq))
              go_ret
              exact ⟨rfl, HQ.out.chg⟩
            | some n =>
              have hl2 : Pre s.t (s.t.kids n) l := by unfold Sp.Goes at hl; rw [hf] at hl; exact hl
              have hsl := HBO.out.wf.slot_of hf
              have hr1 : s.revP ⟨g0, sl0⟩ l = s.prune n l := by unfold Sp.revP; rw [hf]
              have HRV := Lib.hid (fun W o (h : R3 w W a s o s b r) => h.revoke ⟨g0, sl0⟩ hl hr1 (Sp.full_some hsl hf))
              have qok : Pt.ok ⟨g0, sl0⟩ := Sp.slot_ok HBO.out.wf.gs.2 HBO.out.wf.slots.2 hsl
              have HNO := Lib.hid (fun p => Sp.pruned_not HBO.out.wf HBO.out.twf hl2 hf p)
              have HBE := Lib.hid (fun p h => Sp.pruned_below HBO.out.wf HBO.out.twf hl2 hf (p := p) h)
              have HST := Lib.hid (fun p h => Sp.pruned_stays HBO.out.wf HBO.out.twf hl2 hf (p := p) h)
              have HY := Lib.hid (fun (g sl : Nat) h => cnt_yes HBO.out.wf HBO.out.twf hl2 hf (g := g) (sl := sl) h)
              have HNN := Lib.hid (fun (g sl : Nat) h => cnt_no HBO.out.wf HBO.out.twf hl2 hf (g := g) (sl := sl) h)
              have HROWC := Lib.hid (fun (g : Nat) => cnt_row HBO.out.wf HBO.out.twf hl2 g)
              have HEND := Lib.hid (cnt_end HBO.out.wf HBO.out.twf hl2)
              have HZERO := Lib.hid (cnt_zero HBO.out.wf HBO.out.twf hl2)
              have HLEN := Lib.hid (show l.length ≤ 512 from by
                have h1 := HBO.out.twf.len
                have h2 := HBO.out.wf.size.2
                have h3 := Fo.len_prune HBO.out.twf hl2
                omega)
              have HCB := Lib.hid (fun g sl => (Nat.le_trans (List.length_filter_le _ _) HLEN.out : cntL s l g sl ≤ 512))
              obtain ⟨s1, hs1⟩ : ∃ s1, s1 = s.prune n l := ⟨_, rfl⟩
              rw [← hs1] at HRV HNO HBE HST
              clear hl hl2 hsl hr1 hf hs1
              go_wp2_with (first
                | (go_at_call 20; refine HCP.out.mono ?_; rintro e w1 ⟨o, rfl, hq⟩; have HQ := Lib.hid hq; clear hq)
                | (go_at_call 21; refine (HRV.out _ _ HQ.out).mono ?_; rintro e w2 ⟨rfl, hq⟩; have HQ2 := Lib.hid hq; clear hq))
              obtain ⟨S1, So, T1, hA, hO, hR, _, _, hch⟩ := HQ2.out
              have GO := Lib.hid (fun W (hc : Chg [] w2 W) p => get_any (hO.quiet hc) p)
              have GS := Lib.hid (fun W (hc : Chg [] w2 W) p => get_any (hA.quiet hc) p)
              have UO := Lib.hid (fun W (hc : Chg [] w2 W) p (hp : Pt.ok p) (x : Bool) (hx : x = true ↔ s.Und p ⟨g0, sl0⟩) => under_any_ (hO.quiet hc) hp qok hx)
              have UA := Lib.hid (fun W (hc : Chg [] w2 W) p (hp : Pt.ok p) => under_any_ (hA.quiet hc) hp qok (b := false) ⟨(fun e => nomatch e), (fun e => absurd e (HNO.out p))⟩)
              have UR := Lib.hid (fun W (hc : Chg [] w2 W) p (x : Bool) (hx : x = true ↔ s.Und p ⟨g0, sl0⟩) => runder_any (hR.quiet hc) HBO.out hx)
              have PO := Lib.hid (fun W (hc : Chg [] w2 W) p (hp : Pt.ok p) => tparent_any (hO.quiet hc) hp)
              have PA := Lib.hid (fun W (hc : Chg [] w2 W) p (hp : Pt.ok p) => tparent_any (hA.quiet hc) hp)
              have HCH := Lib.hid hch
              obtain ⟨L, hL⟩ : ∃ L, L = l.length := ⟨_, rfl⟩
              rw [← hL] at HEND HLEN ⊢
              clear hA hO hR hch hL qok
              -- how many goroutines and slots there are: what was asked for
              rw [hsx] at HEND
              rw [hsy] at HROWC
              clear hsx hsy
              go_loopg [19, 20] x (fun gh ct i wq => ∃ (g c : Nat), g + gh = x ∧ i = .int .i64 g ∧ ct = .int .i64 c ∧ Hid (Chg [] w2 wq ∧ c = cntL s l g 0))
              case atStart => exact ⟨0, 0, by omega, rfl, rfl, Lib.hid ⟨Chg.refl _ _, HZERO.out.symm⟩⟩
              case round =>
                obtain ⟨g, c, hg, rfl, rfl, HI⟩ := hrel
                by_cases hgx : g < x
                · have g1 : (g : Int) < (x : Int) := by omega
                  go_wp2
                  go_loopg [19, 21] y (fun gh ct i wq => ∃ (j c : Nat), j + gh = y ∧ i = .int .i64 j ∧ ct = .int .i64 c ∧ Hid (Chg [] w2 wq ∧ c = cntL s l g j))
                  case atStart => exact ⟨0, c, by omega, rfl, rfl, HI⟩
                  case round =>
                    obtain ⟨j, c, hj, rfl, rfl, HI2⟩ := hrel
                    by_cases hjy : j < y
                    · have j1 : (j : Int) < (y : Int) := by omega
                      have hpok : Pt.ok ⟨(g : Int), (j : Int)⟩ := ⟨I64.nat (by omega), I64.nat (by omega)⟩
                      obtain ⟨x0, hx0⟩ : ∃ x0 : Bool, x0 = true ↔ s.Und ⟨(g : Int), (j : Int)⟩ ⟨g0, sl0⟩ := by
                        by_cases hu : s.Und ⟨(g : Int), (j : Int)⟩ ⟨g0, sl0⟩
                        · exact ⟨true, fun _ => hu, fun _ => rfl⟩
                        · exact ⟨false, (fun e => nomatch e), (fun e => absurd e hu)⟩
                      have G1 := Lib.hid (GO.out _ HI2.out.1 ⟨(g : Int), (j : Int)⟩)
                      have G2 := Lib.hid (fun W hc => GS.out W hc ⟨(g : Int), (j : Int)⟩)
                      have U1 := Lib.hid (fun W hc => UO.out W hc ⟨(g : Int), (j : Int)⟩ hpok x0 hx0)
                      have U2 := Lib.hid (fun W hc => UR.out W hc ⟨(g : Int), (j : Int)⟩ x0 hx0)
                      have U3 := Lib.hid (fun W hc => UA.out W hc ⟨(g : Int), (j : Int)⟩ hpok)
                      have P1 := Lib.hid (fun W hc => PO.out W hc ⟨(g : Int), (j : Int)⟩ hpok)
                      have P2 := Lib.hid (fun W hc => PA.out W hc ⟨(g : Int), (j : Int)⟩ hpok)
                      have HI3 := Lib.hid HI2.out.1
                      have hcnt := HI2.out.2
                      have t1 : True := trivial
                      have t2 : True := trivial
                      have t3 : True := trivial
                      clear HI2 hpok
                      cases x0 with
                      | true =>
                        have hu := hx0.1 rfl
                        have hfe := HBE.out _ hu
                        have hcy := HY.out g j hu
                        have HCY := Lib.hid (show c + 1 = cntL s l g (j + 1) from by omega)
                        have hc512 : c + 1 ≤ 512 := by have := HCB.out g (j + 1); omega
                        obtain ⟨⟨qk, qi, qg, qr⟩, hq1⟩ : ∃ c, c = s.capAt ⟨(g : Int), (j : Int)⟩ := ⟨_, rfl⟩
                        obtain ⟨⟨pk, pi, pg, pr⟩, hq2⟩ : ∃ c, c = s1.capAt ⟨(g : Int), (j : Int)⟩ := ⟨_, rfl⟩
                        obtain ⟨zz, hzz⟩ : ∃ z, z = s.fullE ⟨(g : Int), (j : Int)⟩ := ⟨_, rfl⟩
                        rw [← hq1, ← hzz] at G1
                        rw [hfe, ← hq2] at G2
                        clear hx0 hu hfe hcy hcnt hq1 hq2 hzz
                        go_wp2_with (first
                          | (go_at_call 18; have _t := t1; refine G1.out.mono ?_; rintro e w3 ⟨rfl, hc⟩; have HC3 := Lib.hid ((HI3.out.then hc).alloc (.cells #[.int .i64 qk, .int .i64 qi, .int .u64 qg, .int .u8 (qr : Nat)] 39)); clear hc t1)
                          | (go_at_call 18; refine (G2.out _ HC3.out).mono ?_; rintro e w4 ⟨rfl, hc⟩; have HC4 := Lib.hid ((HC3.out.then hc).alloc (.cells #[.int .i64 pk, .int .i64 pi, .int .u64 pg, .int .u8 (pr : Nat)] 39)); clear hc)
                          | (go_at_call 23; have _t := t2; refine (U1.out _ HC4.out).mono ?_; rintro e w5 ⟨rfl, hc⟩; have HC5 := Lib.hid (HC4.out.then hc); clear hc t2)
                          | (go_at_call 24; refine (U2.out _ HC5.out).mono ?_; rintro e w6 ⟨rfl, hc⟩; have HC6 := Lib.hid (HC5.out.then hc); clear hc)
                          | (go_at_call 23; refine (U3.out _ HC6.out).mono ?_; rintro e w7 ⟨rfl, hc⟩; have HC7 := Lib.hid (HC6.out.then hc); clear hc))
                        go_roundg (y - j - 1)
                        case measure => omega
                        case rel => exact ⟨j + 1, c + 1, by omega, by go_num, by go_num, Lib.hid ⟨HC7.out, HCY.out⟩⟩
                      | false =>
                        have hu : ¬ s.Und ⟨(g : Int), (j : Int)⟩ ⟨g0, sl0⟩ := fun e => by have := hx0.2 e; cases this
                        obtain ⟨hfe, hca, hpa⟩ := HST.out _ hu
                        have hcy := HNN.out g j hu
                        have HCY := Lib.hid (show c = cntL s l g (j + 1) from by omega)
                        rw [hfe, hca] at G2
                        rw [hpa] at P2
                        obtain ⟨⟨qk, qi, qg, qr⟩, hq1⟩ : ∃ c, c = s.capAt ⟨(g : Int), (j : Int)⟩ := ⟨_, rfl⟩
                        obtain ⟨zz, hzz⟩ : ∃ z, z = s.fullE ⟨(g : Int), (j : Int)⟩ := ⟨_, rfl⟩
                        rw [← hq1, ← hzz] at G1 G2
                        obtain ⟨⟨P, Q⟩, hp⟩ : ∃ p, p = ptO (s.parAt ⟨(g : Int), (j : Int)⟩) := ⟨_, rfl⟩
                        obtain ⟨B, hB⟩ : ∃ p, p = (s.parAt ⟨(g : Int), (j : Int)⟩).isSome := ⟨_, rfl⟩
                        rw [← hp, ← hB] at P1 P2
                        have f1 : (P != P) = false := by simp
                        have f2 : (Q != Q) = false := by simp
                        have f3 : (B != B) = false := by simp
                        have f4 : (zz != zz) = false := by simp
                        have hneq : ∀ W, (binOp .neq 39 (.agg #[.int .i64 qk, .int .i64 qi, .int .u64 qg, .int .u8 (qr : Nat)]) (.agg #[.int .i64 qk, .int .i64 qi, .int .u64 qg, .int .u8 (qr : Nat)])).run Try.prog W = .ok (.bool false) W := fun W => by
                          have := neq_cap ⟨qk, qi, qg, qr⟩ ⟨qk, qi, qg, qr⟩ W
                          rw [decide_eq_true rfl] at this
                          exact this
                        clear hx0 hu hfe hca hpa hcy hcnt hq1 hzz hp hB
                        go_wp2_with (first
                          | (go_at_call 18; have _t := t1; refine G1.out.mono ?_; rintro e w3 ⟨rfl, hc⟩; have HC3 := Lib.hid ((HI3.out.then hc).alloc (.cells #[.int .i64 qk, .int .i64 qi, .int .u64 qg, .int .u8 (qr : Nat)] 39)); have HX := Lib.hid (Blk.new w3 39 #[.int .i64 qk, .int .i64 qi, .int .u64 qg, .int .u8 (qr : Nat)]); clear hc t1)
                          | (go_at_call 18; refine (G2.out _ HC3.out).mono ?_; rintro e w4 ⟨rfl, hc⟩; have HC4 := Lib.hid ((HC3.out.then hc).alloc (.cells #[.int .i64 qk, .int .i64 qi, .int .u64 qg, .int .u8 (qr : Nat)] 39)); have HX := Lib.hid ((HX.out.quiet hc).quiet ((Chg.refl [] w4).alloc (.cells #[.int .i64 qk, .int .i64 qi, .int .u64 qg, .int .u8 (qr : Nat)] 39))); have HYB := Lib.hid (Blk.new w4 39 #[.int .i64 qk, .int .i64 qi, .int .u64 qg, .int .u8 (qr : Nat)]); clear hc)
                          | (go_at_call 23; have _t := t2; refine (U1.out _ HC4.out).mono ?_; rintro e w5 ⟨rfl, hc⟩; have HC5 := Lib.hid (HC4.out.then hc); have HX := Lib.hid (HX.out.quiet hc); have HYB := Lib.hid (HYB.out.quiet hc); clear hc t2)
                          | (go_at_call 24; refine (U2.out _ HC5.out).mono ?_; rintro e w6 ⟨rfl, hc⟩; have HC6 := Lib.hid (HC5.out.then hc); have HX := Lib.hid (HX.out.quiet hc); have HYB := Lib.hid (HYB.out.quiet hc); clear hc)
                          | (go_at_call 23; refine (U3.out _ HC6.out).mono ?_; rintro e w7 ⟨rfl, hc⟩; have HC7 := Lib.hid (HC6.out.then hc); have HX := Lib.hid (HX.out.quiet hc); have HYB := Lib.hid (HYB.out.quiet hc); clear hc)
                          | (go_at_call 17; have _t := t3; refine (P1.out _ HC7.out).mono ?_; rintro e w8 ⟨rfl, hc⟩; have HC8 := Lib.hid (HC7.out.then hc); have HX := Lib.hid (HX.out.quiet hc); have HYB := Lib.hid (HYB.out.quiet hc); clear hc t3)
                          | (go_at_call 17; refine (P2.out _ HC8.out).mono ?_; rintro e w9 ⟨rfl, hc⟩; have hbx := HX.out.quiet hc; have hby := HYB.out.quiet hc; have x0 := hbx.cell 0; have x1 := hbx.cell 1; have x2 := hbx.cell 2; have x3 := hbx.cell 3; have y0 := hby.cell 0; have y1 := hby.cell 1; have y2 := hby.cell 2; have y3 := hby.cell 3; have lx := hbx.lt; have ly := hby.lt; simp only [List.getElem?_toArray, List.getElem?_cons_succ, List.getElem?_cons_zero] at x0 x1 x2 x3 y0 y1 y2 y3; have HC9 := Lib.hid (HC8.out.then hc); clear hc hbx hby))
                        go_roundg (y - j - 1)
                        case measure => omega
                        case rel => exact ⟨j + 1, c, by omega, by go_num, rfl, Lib.hid ⟨HC9.out, HCY.out⟩⟩
                    · obtain rfl : j = y := by omega
                      have j1 : ¬ ((j : Int) < (j : Int)) := by omega
                      go_wp2
                      go_roundg (x - g - 1)
                      case measure => omega
                      case rel => exact ⟨g + 1, c, by omega, by go_num, rfl, Lib.hid ⟨HI2.out.1, HI2.out.2.trans (HROWC.out g).symm⟩⟩
                · obtain rfl : g = x := by omega
                  have g1 : ¬ ((g : Int) < (g : Int)) := by omega
                  obtain rfl : c = L := HI.out.2.trans HEND.out
                  have hee : ((c : Int) == (c : Int)) = true := by simp
                  go_wp2_with (go_at_call 12; refine (HK.out _).mono ?_; rintro e w2 ⟨rfl, hc⟩)
                  go_ret
                  exact ⟨rfl, (HCH.out.then HI.out.1).then hc⟩
end Go.Proofs
end
section
namespace Go.Proofs.Ytncpeemghnmakaa.cspaceRevokes
open Go.ChangeShapes Go.WideShapes Go.ChangeAt Go.RowKit
set_option linter.unusedVariables false

theorem own : ownKnob Try.prog.godebug = none := by kernel_rfl

set_option maxRecDepth 100000 in
theorem lifted (os : Os) (started : os.Started) (H : Type) (enc : TypeId × Value → H) :
    ReturnsInHanded {} Try.checked os 5 .any (Rows.cspaceRevokesSpec.pre6 enc Try.prog Try.f5 Rows.cspaceRevokesRow.domain false) (Rows.cspaceRevokesSpec.post enc Try.prog Try.f5 false true false false) := by
  refine returnsInHanded_of_change (C := Try.checked) own started (by kernel_rfl) Try.func5
    (ChangeSpec.witness6 (enc := enc) (C := Try.checked) false ⟨#[], #[.int .i64 0, .int .i64 0, .int .i64 0, .slice none 0 0, .int .i64 0, .int .i64 0], []⟩ 8 (by kernel_rfl) (by kernel_rfl) (by kernel_rfl) (by kernel_rfl)) ?_
  intro W base args ds gs before hval0 hW hcnd _
  have hval : ∀ (j : Nat) t v, Try.f5.params[j]? = some t → args[j]? = some v → Value.okWide Try.prog W .any base t v := hval0
  have hW' := hW
  obtain ⟨p, q, hA0, hV, rfl, hfz, hnd⟩ := hW
  have hA : DataW.TrodAll enc Try.prog W 0 (fun _ => true) true Try.f5.params.toList args.toList ds p := hA0
  rw [Try.params5] at hA hval
  obtain ⟨v0, vs0, d0, ds0, p0, q0, hargs, rfl, rfl, h0, r0⟩ := trodAll_cons hA
  obtain ⟨v1, vs1, d1, ds1, p1, q1, rfl, rfl, rfl, h1, r1⟩ := trodAll_cons r0
  obtain ⟨v2, vs2, d2, ds2, p2, q2, rfl, rfl, rfl, h2, r2⟩ := trodAll_cons r1
  obtain ⟨v3, vs3, d3, ds3, p3, q3, rfl, rfl, rfl, h3, r3⟩ := trodAll_cons r2
  obtain ⟨v4, vs4, d4, ds4, p4, q4, rfl, rfl, rfl, h4, r4⟩ := trodAll_cons r3
  obtain ⟨v5, vs5, d5, ds5, p5, q5, rfl, rfl, rfl, h5, r5⟩ := trodAll_cons r4
  obtain ⟨rfl, rfl, rfl⟩ := trodAll_nil r5
  obtain rfl : args = #[v0, v1, v2, v3, v4, v5] := by cases args; simp_all
  obtain ⟨rfl, rfl⟩ := trodVars_none hV
  obtain ⟨a0, rfl, rfl, rfl, w0⟩ := open_int Try.underlying3 (hval 0 3 v0 rfl rfl) h0
  obtain ⟨a1, rfl, rfl, rfl, w1⟩ := open_int Try.underlying3 (hval 1 3 v1 rfl rfl) h1
  obtain ⟨a2, rfl, rfl, rfl, w2⟩ := open_int Try.underlying3 (hval 2 3 v2 rfl rfl) h2
  obtain ⟨a4, rfl, rfl, rfl, w4⟩ := open_int Try.underlying3 (hval 4 3 v4 rfl rfl) h4
  obtain ⟨a5, rfl, rfl, rfl, w5⟩ := open_int Try.underlying3 (hval 5 3 v5 rfl rfl) h5
  clear hA0 hval0
  simp only [List.append_nil, List.nil_append] at hW'
  obtain ⟨b0, c0⟩ := bounds_i64 w0
  obtain ⟨b1, c1⟩ := bounds_i64 w1
  obtain ⟨b2, c2⟩ := bounds_i64 w2
  have hlt3 : ∀ x ∈ p3, x.block < W.heap.size := fun x hx => hW'.lt x (by simp [hx])
  obtain ⟨l3, hl3⟩ := open_acts (hval 3 22 v3 rfl rfl) h3
  obtain ⟨b4, c4⟩ := bounds_i64 w4
  obtain ⟨b5, c5⟩ := bounds_i64 w5
  refine (revokes_any _ _ _ _ _ _ _ W hl3).mono fun e W' ⟨he, hc⟩ => ?_
  have hg := hc.to_below
  subst he
  exact ⟨_, rfl, post_of_below (pa := ([] ++ ([] ++ ([] ++ (p3 ++ ([] ++ ([] ++ []))))))) (pv := []) hW' (fun _ _ _ => (trodAll_cons_mk (shut_bool Try.underlying4 _) trodAll_mk0)) (fun sp hsp => (trodAll_cons_mk (shut_int Try.underlying3 w0) (trodAll_cons_mk (shut_int Try.underlying3 w1) (trodAll_cons_mk (shut_int Try.underlying3 w2) (trodAll_cons_mk (WideElems.Trod_stays Try.laidOut (by kernel_rfl) (of_decide_eq_true (by kernel_rfl)) h3 (fun x hx => hg.same (hlt3 x hx)) (fun x hx => hsp x (by simp [hx]))) (trodAll_cons_mk (shut_int Try.underlying3 w4) (trodAll_cons_mk (shut_int Try.underlying3 w5) trodAll_mk0))))))) (fun _ _ => rfl) (by simp)
    hg (ok_one (by kernel_rfl) rfl (okWide_bool_mk Try.underlying4 _))⟩

theorem over : Rows.cspaceRevokesRow.holds Try.pinned (OpenSpec.ofChange Rows.cspaceRevokesSpec) :=
  OpenClaim.holds_of_wide 5 Try.f5 rfl rfl rfl rfl rfl rfl rfl ⟨rfl, rfl, rfl, rfl, rfl⟩ rfl rfl rfl rfl rfl (by kernel_rfl) Try.func5 (by kernel_rfl)
    (of_decide_eq_true (by kernel_rfl)) (by unfold Func.isWrapper; first | (rw [if_pos (by decide +kernel)]; kernel_rfl) | (rw [if_neg (by decide +kernel)]; exact ⟨rfl, rfl⟩))
    (fun os started H enc _ => lifted os started H enc)

/-- ████ THE STATEMENT ████ -/
theorem proved : Rows.CspaceRevokesSaid :=
  over
#print axioms proved
end Go.Proofs.Ytncpeemghnmakaa.cspaceRevokes
end
