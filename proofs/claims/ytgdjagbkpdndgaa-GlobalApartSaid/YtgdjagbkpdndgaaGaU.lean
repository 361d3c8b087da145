import Derived.Test.YtgdjagbkpdndgaaGaT
import Derived.WalkSpells
import Derived.Laws.Pointers
import Derived.Outline
import Derived.BigQuiet
import Derived.Deep.QuietTactic
import Derived.Deep.DeepFit
import Derived.Deep.RegionHeld3
import Derived.Deep.RegionLaw
import Derived.StillTailTactics
namespace Go.Proofs
open Go.RowKit
set_option linter.unusedVariables false

theorem tkL_len (f : Int → Bool) (L : List Int) : (tkL f L).length ≤ L.length := by
  unfold tkL
  rw [List.length_eraseIdx]
  split <;> omega
section
variable {w wa wb w1 w2 w3 w4 : World} {q r : Nat} {N : List (Nat × Int)} {S : List Nat} {L' : List Int}
set_option maxRecDepth 100000 in
set_option maxHeartbeats 6400000 in
theorem do2 (H : QAt w q N) (HR : RefAt w r S (nu N)) (hN : N.length ≤ 8000) (A1 : Option Addr) (n1 c1 : Nat) (g p : Int) {VA : Value} {aff : List Int} (hV : Bs w VA aff) (hf : aff = [] ∨ ∀ k ∈ foot VA, k ∉ q :: bl N) :
    Calls Try.prog 11 #[.pointer (some ⟨q, 0, none⟩), .pointer (some ⟨r, 0, none⟩), .agg #[.int .i64 2, .slice A1 n1 c1, .int .i64 g, .int .i64 p, VA]] w (DoPost q r N w) := by
  unfold DoPost
  obtain ⟨A, ac, rfl, _⟩ := id hV
  have hNl := nu_len N
  have hc0 : Chg [] w (w.alloc (.cells #[.int .i64 2, .slice A1 n1 c1, .int .i64 g, .int .i64 p, .slice A aff.length ac] 34)) := (Chg.refl [] w).alloc _
  have hbx := Blk.new w 34 #[.int .i64 2, .slice A1 n1 c1, .int .i64 g, .int .i64 p, .slice A aff.length ac]
  have htk := take_any (H.quiet hc0) (by omega) (hV.quiet hc0) p
  have hrt := fun W1 (h2 : Chg (q :: bl N) (w.alloc (.cells #[.int .i64 2, .slice A1 n1 c1, .int .i64 g, .int .i64 p, .slice A aff.length ac] 34)) W1) => rtake_any (((HR.quiet hc0).rest (H.quiet hc0) h2)) (by omega) ((hV.quiet hc0).chg h2 hf) p
  have hle := tkL_len (mayP aff p) (nu N)
  obtain ⟨an, han⟩ : ∃ an, an = aff.length := ⟨_, rfl⟩
  rw [← han] at hc0 hbx htk hrt ⊢
  obtain ⟨f, hff⟩ : ∃ f, f = mayP aff p := ⟨_, rfl⟩
  rw [← hff] at htk hrt hle
  have HBX := Lib.hid hbx
  have HC0 := Lib.hid hc0
  have HST := Lib.hid (fun w1 w2 w3 hT hU hc => Does.step (w1 := w1) (wb := w1) (w2 := w2) (w3 := w3) (L' := tkL f (nu N)) H HR hc0 hT (Chg.refl _ _) hU hc)
  have HLT := Lib.hid H.lt
  have HLE := Lib.hid hle
  clear hV hf hNl hc0 hbx han hff hN H HR hle
  cases hB : tkB f (nu N) with
  | true =>
    have HO := Lib.hid (show oneL f (nu N) = [tkV f (nu N)] by unfold oneL; rw [hB]; rfl)
    rw [hB] at htk
    obtain ⟨X, hX⟩ : ∃ X, X = tkV f (nu N) := ⟨_, rfl⟩
    rw [← hX] at htk HO
    have hXX : (X == X) = true := by simp
    clear hB hX
    go_enter Try.func11, Try.ntmps11
    go_wp2_with (first
      | (go_at_call 15; refine htk.mono ?_; rintro e w1 ⟨rfl, hT⟩; have hc := hT.choose_spec.2.2.2; have bx := HBX.out.chg hc (fun hm => by have := HLT.out _ hm; omega); have k3 := bx.cell 3; have k4 := bx.cell 4; simp only [List.getElem?_toArray, List.getElem?_cons_succ, List.getElem?_cons_zero] at k3 k4; have HT := Lib.hid hT; have HC := Lib.hid hc; clear hT hc bx)
      | (go_at_call 26; refine (hrt _ HC.out).mono ?_; rintro e w2 ⟨v, rfl, hv, _, hU⟩; rw [HO.out] at hv; obtain ⟨A9, c9, rfl, _, _, _, o9⟩ := hv.open_; obtain ⟨b9, p9, rfl, _, z9⟩ := o9 0 X rfl; rw [Nat.add_zero] at z9; have HU := Lib.hid hU; simp only [List.length_cons, List.length_nil, Nat.zero_add]; clear hU hv o9))
    go_ret
    exact ⟨rfl, _, HST.out _ _ _ HT.out HU.out (Chg.refl _ _), Nat.le_trans HLE.out (by omega)⟩
  | false =>
    have HO := Lib.hid (show oneL f (nu N) = [] by unfold oneL; rw [hB]; rfl)
    have hX := (tk_none (f := f) (L := nu N) (by unfold tkB at hB; simpa using hB)).1
    rw [hB, hX] at htk
    clear hB hX
    go_enter Try.func11, Try.ntmps11
    go_wp2_with (first
      | (go_at_call 15; refine htk.mono ?_; rintro e w1 ⟨rfl, hT⟩; have hc := hT.choose_spec.2.2.2; have bx := HBX.out.chg hc (fun hm => by have := HLT.out _ hm; omega); have k3 := bx.cell 3; have k4 := bx.cell 4; simp only [List.getElem?_toArray, List.getElem?_cons_succ, List.getElem?_cons_zero] at k3 k4; have HT := Lib.hid hT; have HC := Lib.hid hc; clear hT hc bx)
      | (go_at_call 26; refine (hrt _ HC.out).mono ?_; rintro e w2 ⟨v, rfl, hv, _, hU⟩; rw [HO.out] at hv; obtain ⟨A9, c9, rfl, _⟩ := hv.open_; have HU := Lib.hid hU; simp only [List.length_nil]; clear hU hv))
    go_ret
    exact ⟨rfl, _, HST.out _ _ _ HT.out HU.out (Chg.refl _ _), Nat.le_trans HLE.out (by omega)⟩
set_option maxRecDepth 100000 in
set_option maxHeartbeats 3200000 in
theorem do3 (H : QAt w q N) (HR : RefAt w r S (nu N)) (hN : N.length ≤ 8000) (A1 : Option Addr) (n1 c1 : Nat) (g p : Int) (A : Option Addr) (an ac : Nat) :
    Calls Try.prog 11 #[.pointer (some ⟨q, 0, none⟩), .pointer (some ⟨r, 0, none⟩), .agg #[.int .i64 3, .slice A1 n1 c1, .int .i64 g, .int .i64 p, .slice A an ac]] w (DoPost q r N w) := by
  unfold DoPost
  have hNl := nu_len N
  have hc0 : Chg [] w (w.alloc (.cells #[.int .i64 3, .slice A1 n1 c1, .int .i64 g, .int .i64 p, .slice A an ac] 34)).drew := ((Chg.refl [] w).alloc _).drew
  have hbx := (Blk.new w 34 #[.int .i64 3, .slice A1 n1 c1, .int .i64 g, .int .i64 p, .slice A an ac]).drew
  have hq := remove_any (H.quiet hc0) (by omega) g
  have hrt := fun W1 (h2 : Chg (q :: bl N) (w.alloc (.cells #[.int .i64 3, .slice A1 n1 c1, .int .i64 g, .int .i64 p, .slice A an ac] 34)).drew W1) => rremove_any (((HR.quiet hc0).rest (H.quiet hc0) h2)) (by omega) g
  have hle : ((nu N).eraseIdx (findAt g (nu N))).length ≤ (nu N).length + 50 := by rw [List.length_eraseIdx]; split <;> omega
  obtain ⟨K, hK⟩ : ∃ K, K = (nu N).eraseIdx (findAt g (nu N)) := ⟨_, rfl⟩
  obtain ⟨B, hB⟩ : ∃ B, B = decide (findAt g (nu N) < (nu N).length) := ⟨_, rfl⟩
  rw [← hK] at hq hrt hle
  rw [← hB] at hq hrt
  have hBB : (B == B) = true := by simp
  have HBX := Lib.hid hbx
  have HST := Lib.hid (fun w1 w2 w3 hT hU hc => Does.step (w1 := w1) (wb := w1) (w2 := w2) (w3 := w3) (L' := K) H HR hc0 hT (Chg.refl _ _) hU hc)
  have HLT := Lib.hid H.lt
  have HLE := Lib.hid hle
  have HRR := Lib.hid (show w.heap.size ∉ [r] from fun hm => by have := HR.lt r HR.mem; simp at hm; omega)
  clear hNl hc0 hbx hN H HR hle hK hB
  go_enter Try.func11, Try.ntmps11
  go_wp2
  go_region_held3 (fun w' => w'.cell? ⟨w.heap.size, 2, none⟩ = some (.int .i64 g))
    (first | go_keep)
    (first
      | (go_at_call 23; refine hq.mono ?_; rintro e w1 ⟨rfl, hT⟩; have hc := hT.choose_spec.2.2.2; have b5 := HBX.out.chg hc (fun hm => by have := HLT.out _ hm; omega); have k1 := b5.cell 2; have HT := Lib.hid hT; have HC := Lib.hid hc; have HB := Lib.hid b5; clear hT hc b5)
      | (go_at_call 27; refine (hrt _ HC.out).mono ?_; rintro e w2 ⟨rfl, hU⟩; have b6 := HB.out.chg hU.choose_spec.2.2 HRR.out; have k2 := b6.cell 2; have HU := Lib.hid hU; clear hU b6))
  all_goals
    go_wp2
    go_ret
    exact ⟨rfl, _, HST.out _ _ _ HT.out HU.out (Chg.refl _ _), HLE.out⟩
set_option maxRecDepth 100000 in
set_option maxHeartbeats 3200000 in
theorem do4 (H : QAt w q N) (HR : RefAt w r S (nu N)) (hN : N.length ≤ 8000) (A1 : Option Addr) (n1 c1 : Nat) (g p : Int) (A : Option Addr) (an ac : Nat) :
    Calls Try.prog 11 #[.pointer (some ⟨q, 0, none⟩), .pointer (some ⟨r, 0, none⟩), .agg #[.int .i64 4, .slice A1 n1 c1, .int .i64 g, .int .i64 p, .slice A an ac]] w (DoPost q r N w) := by
  unfold DoPost
  have hNl := nu_len N
  have hc0 : Chg [] w (w.alloc (.cells #[.int .i64 4, .slice A1 n1 c1, .int .i64 g, .int .i64 p, .slice A an ac] 34)).drew := ((Chg.refl [] w).alloc _).drew
  have hbx := (Blk.new w 34 #[.int .i64 4, .slice A1 n1 c1, .int .i64 g, .int .i64 p, .slice A an ac]).drew
  have hq := has_q (H.quiet hc0).rowed g
  obtain ⟨V0, h1, h2, hS⟩ := id HR
  have hrt := fun W (hc : Chg [] w W) => rfind_any (h2.quiet hc) (by omega) g
  obtain ⟨A9, c9, rfl, _⟩ := h2.open_
  have hrc := fun W (hc : Chg [] w W) => (h1.chg hc (by simp)).cell 0
  simp only [List.getElem?_toArray, List.getElem?_cons_zero] at hrc
  have HRC := Lib.hid hrc
  have hge : (decide ((0 : Int) ≤ findI g (nu N))) = decide (findAt g (nu N) < (nu N).length) := by
    by_cases h : findAt g (nu N) < (nu N).length
    · rw [findI_at h, decide_eq_true h]; simp
    · rw [findI_no h, decide_eq_false h]; simp
  obtain ⟨B, hB⟩ : ∃ B, B = decide (findAt g (nu N) < (nu N).length) := ⟨_, rfl⟩
  rw [← hB] at hq hge
  obtain ⟨FI, hFI⟩ : ∃ FI, FI = findI g (nu N) := ⟨_, rfl⟩
  rw [← hFI] at hrt hge
  obtain ⟨m, hm⟩ : ∃ m, m = (nu N).length := ⟨_, rfl⟩
  rw [← hm] at hrt HRC
  have hBB : (B == B) = true := by simp
  have HBX := Lib.hid hbx
  have HC0 := Lib.hid hc0
  have HST := Lib.hid (fun w1 hc => Does.stay (w1 := w1) H HR hc)
  have k0 := hrc _ hc0
  rw [← hm] at k0
  clear hNl hc0 hbx hN H HR hB hFI hm h1 h2 hS hrc
  go_enter Try.func11, Try.ntmps11
  go_wp2
  go_region_held3 (fun w' => w'.cell? ⟨w.heap.size, 2, none⟩ = some (.int .i64 g) ∧ w'.cell? ⟨r, 0, none⟩ = some (.slice A9 m c9))
    (first | go_keep)
    (first
      | (go_at_call 24; refine hq.mono ?_; rintro e w1 ⟨rfl, hc⟩; have b5 := HBX.out.chg hc (by simp); have k1 := b5.cell 2; have k2 := HRC.out _ (HC0.out.then hc); have HC := Lib.hid (HC0.out.then hc); clear hc b5)
      | (go_at_call 28; refine (hrt _ HC.out).mono ?_; rintro e w2 ⟨rfl, rfl⟩))
  all_goals
    go_wp2
    go_ret
    exact ⟨rfl, _, HST.out _ HC.out, by omega⟩
set_option maxRecDepth 100000 in
set_option maxHeartbeats 3200000 in
theorem do5 (H : QAt w q N) (HR : RefAt w r S (nu N)) (hN : N.length ≤ 8000) (A1 : Option Addr) (n1 c1 : Nat) (g p : Int) {VA : Value} {aff : List Int} (hV : Bs w VA aff) :
    Calls Try.prog 11 #[.pointer (some ⟨q, 0, none⟩), .pointer (some ⟨r, 0, none⟩), .agg #[.int .i64 5, .slice A1 n1 c1, .int .i64 g, .int .i64 p, VA]] w (DoPost q r N w) := by
  unfold DoPost
  obtain ⟨A, ac, rfl, _⟩ := id hV
  have hNl := nu_len N
  have hc0 : Chg [] w (w.alloc (.cells #[.int .i64 5, .slice A1 n1 c1, .int .i64 g, .int .i64 p, .slice A aff.length ac] 34)) := (Chg.refl [] w).alloc _
  have hbx := Blk.new w 34 #[.int .i64 5, .slice A1 n1 c1, .int .i64 g, .int .i64 p, .slice A aff.length ac]
  have hah := ahead_any (H.quiet hc0).rowed (by omega) (hV.quiet hc0) g p
  have hra := fun W (hc : Chg [] w W) => rahead_any (HR.quiet hc) (by omega) (hV.quiet hc) g p
  obtain ⟨an, han⟩ : ∃ an, an = aff.length := ⟨_, rfl⟩
  rw [← han] at hc0 hbx hah hra ⊢
  obtain ⟨X, hX⟩ : ∃ X, X = (ahd (mayP aff p) g (nu N)).1 := ⟨_, rfl⟩
  obtain ⟨B, hB⟩ : ∃ B, B = (ahd (mayP aff p) g (nu N)).2 := ⟨_, rfl⟩
  rw [← hX, ← hB] at hah
  simp only [← hX, ← hB] at hra
  have hXX : (X == X) = true := by simp
  have hBB : (B == B) = true := by simp
  have HBX := Lib.hid hbx
  have HC0 := Lib.hid hc0
  have HST := Lib.hid (fun w1 hc => Does.stay (w1 := w1) H HR hc)
  clear hV hNl hc0 hbx han hN H HR hX hB
  go_enter Try.func11, Try.ntmps11
  go_wp2_with (first
    | (go_at_call 14; refine hah.mono ?_; rintro e w1 ⟨rfl, hc⟩; have bx := HBX.out.chg hc (by simp); have k2 := bx.cell 2; have k3 := bx.cell 3; have k4 := bx.cell 4; simp only [List.getElem?_toArray, List.getElem?_cons_succ, List.getElem?_cons_zero] at k2 k3 k4; have HC := Lib.hid (HC0.out.then hc); clear hc bx)
    | (go_at_call 29; refine (hra _ HC.out).mono ?_; rintro e w2 ⟨rfl, rfl⟩))
  go_ret
  exact ⟨rfl, _, HST.out _ HC.out, by omega⟩
theorem do0 (H : QAt w q N) (HR : RefAt w r S (nu N)) (kind : Int) (hk : kind ≠ 1 ∧ kind ≠ 2 ∧ kind ≠ 3 ∧ kind ≠ 4 ∧ kind ≠ 5) (A1 : Option Addr) (n1 c1 : Nat) (g p : Int) (A : Option Addr) (an ac : Nat) :
    Calls Try.prog 11 #[.pointer (some ⟨q, 0, none⟩), .pointer (some ⟨r, 0, none⟩), .agg #[.int .i64 kind, .slice A1 n1 c1, .int .i64 g, .int .i64 p, .slice A an ac]] w (DoPost q r N w) := by
  unfold DoPost
  obtain ⟨h1, h2, h3, h4, h5⟩ := hk
  have d1 : (kind == 1) = false := by simpa using h1
  have d2 : (kind == 2) = false := by simpa using h2
  have d3 : (kind == 3) = false := by simpa using h3
  have d4 : (kind == 4) = false := by simpa using h4
  have d5 : (kind == 5) = false := by simpa using h5
  have HST := Lib.hid (fun w1 hc => Does.stay (w1 := w1) H HR hc)
  clear h1 h2 h3 h4 h5 H HR
  go_enter Try.func11, Try.ntmps11
  go_wp2
  go_ret
  exact ⟨rfl, _, HST.out _ ((Chg.refl _ _).alloc _), by omega⟩
/-! ### An act that came in -/
structure ActV where
  kind : Int
  l : List Int
  VL : Value
  g : Int
  p : Int
  aff : List Int
  VA : Value
structure ActV.Fits (w : World) (T : Nat) (a : ActV) : Prop where
  nums : Is w a.VL a.l
  farL : a.l = [] ∨ ∀ k ∈ foot a.VL, k < T
  bs : Bs w a.VA a.aff
  farA : a.aff = [] ∨ ∀ k ∈ foot a.VA, k < T
def ActV.val (a : ActV) : Value := .agg #[.int .i64 a.kind, a.VL, .int .i64 a.g, .int .i64 a.p, a.VA]
theorem ActV.Fits.chg {S : List Nat} {w w' : World} {T : Nat} {a : ActV} (h : a.Fits w T) (hc : Chg S w w') (hS : ∀ k ∈ S, T ≤ k) : a.Fits w' T :=
  ⟨h.nums.chg hc (h.farL.imp id (fun hh k hk hm => by have := hh k hk; have := hS k hm; omega)), h.farL, h.bs.chg hc (h.farA.imp id (fun hh k hk hm => by have := hh k hk; have := hS k hm; omega)), h.farA⟩
theorem do_any (H : QAt w q N) (HR : RefAt w r S (nu N)) (hN : N.length ≤ 8000) (a : ActV) (T : Nat) (hf : a.Fits w T) (hT : ∀ k ∈ q :: bl N, T ≤ k) (hl : a.l.length ≤ 50) :
    Calls Try.prog 11 #[.pointer (some ⟨q, 0, none⟩), .pointer (some ⟨r, 0, none⟩), a.val] w (DoPost q r N w) := by
  obtain ⟨kind, l, VL, g, p, aff, VA⟩ := a
  obtain ⟨h1, h2, h3, h4⟩ := hf
  simp only at h1 h2 h3 h4 hl
  have f1 : l = [] ∨ ∀ k ∈ foot VL, k ∉ q :: bl N := h2.imp id (fun hh k hk hm => by have := hh k hk; have := hT k hm; omega)
  have f2 : aff = [] ∨ ∀ k ∈ foot VA, k ∉ q :: bl N := h4.imp id (fun hh k hk hm => by have := hh k hk; have := hT k hm; omega)
  unfold ActV.val
  obtain ⟨A1, c1, e1, _⟩ := id h1
  obtain ⟨A2, c2, e2, _⟩ := id h3
  by_cases k1 : kind = 1
  · subst k1; subst e2; exact do1 H HR hN g p h1 hl f1 A2 _ c2
  by_cases k2 : kind = 2
  · subst k2; subst e1; exact do2 H HR hN A1 _ c1 g p h3 f2
  by_cases k3 : kind = 3
  · subst k3; subst e1; subst e2; exact do3 H HR hN A1 _ c1 g p A2 _ c2
  by_cases k4 : kind = 4
  · subst k4; subst e1; subst e2; exact do4 H HR hN A1 _ c1 g p A2 _ c2
  by_cases k5 : kind = 5
  · subst k5; subst e1; exact do5 H HR hN A1 _ c1 g p h3
  · subst e1; subst e2; exact do0 H HR kind ⟨k1, k2, k3, k4, k5⟩ A1 _ c1 g p A2 _ c2
end
end Go.Proofs
