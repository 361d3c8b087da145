import Derived.Test.YtelkndhifkmpiaaHeG
import Derived.ScopeJumps
namespace Go.Proofs
open Go.RowKit
set_option linter.unusedVariables false

/-- The places f are just those of ts. -/
def Plcs (ts : List Tm) (f : Int → Option Nat) : Prop :=
  (∀ (k : Nat) (x : Tm), ts[k]? = some x → f x.id = some k) ∧ ∀ id, f id ≠ none → ∃ (k : Nat) (x : Tm), ts[k]? = some x ∧ x.id = id
theorem Plcs.inj {ts : List Tm} {f : Int → Option Nat} (h : Plcs ts f) {k l : Nat} {x y : Tm} (hk : ts[k]? = some x) (hl : ts[l]? = some y) (e : x.id = y.id) : k = l := by
  have h1 := h.1 k x hk
  have h2 := h.1 l y hl
  rw [e, h2] at h1
  exact (Option.some.inj h1).symm
theorem Plcs.swap {ts : List Tm} {f : Int → Option Nat} (h : Plcs ts f) {i j : Nat} (hi : i < ts.length) (hj : j < ts.length) : Plcs (swp ts i j) (upd (upd f (at_ ts j).id i) (at_ ts i).id j) := by
  have ei := at_eq hi
  have ej := at_eq hj
  have hs : ∀ k, k < ts.length → (swp ts i j)[k]? = some (swf (at_ ts) i j k) := fun k hk => by rw [at_eq (by rw [swp_len]; exact hk), swp_at hi hj]
  refine ⟨fun k x hk => ?_, fun id hid => ?_⟩
  · have hl : k < ts.length := by have := (List.getElem?_eq_some_iff.1 hk).1; rwa [swp_len] at this
    rw [hs k hl] at hk
    obtain rfl := Option.some.inj hk
    have hkk := at_eq hl
    unfold swf upd
    by_cases h1 : k = j
    · rw [if_pos h1, if_pos rfl, h1]
    · rw [if_neg h1]
      by_cases h2 : k = i
      · subst h2
        rw [if_pos rfl]
        rw [if_neg (fun e => h1 (h.inj ei ej e.symm)), if_pos rfl]
      · rw [if_neg h2, if_neg (fun e => h2 (h.inj hkk ei e)), if_neg (fun e => h1 (h.inj hkk ej e))]
        exact h.1 k _ hkk
  · unfold upd at hid
    by_cases h1 : id = (at_ ts i).id
    · exact ⟨j, _, hs j hj, by unfold swf; rw [if_pos rfl, h1]⟩
    · rw [if_neg h1] at hid
      by_cases h2 : id = (at_ ts j).id
      · refine ⟨i, _, hs i hi, ?_⟩
        unfold swf
        split
        · rename_i e; rw [h2, ← e]
        · rw [if_pos rfl, h2]
      · rw [if_neg h2] at hid
        obtain ⟨k, x, hk, e⟩ := h.2 id hid
        have hl := (List.getElem?_eq_some_iff.1 hk).1
        refine ⟨k, _, hs k hl, ?_⟩
        unfold swf
        rw [if_neg, if_neg, at_of hk]
        · exact e
        · rintro rfl; exact h1 (by rw [at_of hk, e])
        · rintro rfl; exact h2 (by rw [at_of hk, e])
/-- A heap in memory, its map being just the places of its timers. -/
def Hm (w : World) (g h b c m p : Nat) (ts : List Tm) : Prop := ∃ f, HpB w g h b c ts f m p ∧ Plcs ts f ∧ ∀ x ∈ ts, I64 x.id
section
variable {w w' : World} {g h b c m p : Nat} {ts : List Tm}
theorem Hm.lt (H : Hm w g h b c m p ts) : ∀ k ∈ [g, h, b], k < w.heap.size := by obtain ⟨f, H, _⟩ := H; exact H.lt
theorem Hm.chg {S : List Nat} (H : Hm w g h b c m p ts) (hc : Chg S w w') (hn : ∀ k ∈ [g, h, b], k ∉ S) : Hm w' g h b c m p ts := by
  obtain ⟨f, H, r⟩ := H; exact ⟨f, H.chg hc hn, r⟩
theorem Hm.quiet (H : Hm w g h b c m p ts) (hc : Chg [] w w') : Hm w' g h b c m p ts := H.chg hc (fun _ _ h => by cases h)
theorem Hm.swap (H : Hm w g h b c m p ts) {i j : Nat} (hi : i < ts.length) (hj : j < ts.length) (hn : ts.length ≤ 100000) (hm : m ≤ 1000000) :
    Calls Try.prog 42 #[.pointer (some ⟨g, 0, none⟩), .int .i64 (i : Nat), .int .i64 (j : Nat)] w fun e w' => e = .returned (.tuple #[]) ∧ Hm w' g h b c m p (swp ts i j) ∧ Chg [g, h, b] w w' := by
  obtain ⟨f, H, hP, hI⟩ := H
  have ei := at_eq hi
  have ej := at_eq hj
  refine (swap_any H hi hj hn hm (hI _ (List.mem_of_getElem? ei)) (hI _ (List.mem_of_getElem? ej)) (by rw [hP.1 _ _ ei]; rfl) (by rw [hP.1 _ _ ej]; rfl)).mono ?_
  rintro e w' ⟨h1, h2, h3⟩
  exact ⟨h1, ⟨_, h2, hP.swap hi hj, fun x hx => hI x ((swp_perm hi hj).mem_iff.1 hx)⟩, h3⟩
theorem Hm.ahead (H : Hm w g h b c m p ts) {i j : Nat} (hi : i < ts.length) (hj : j < ts.length) (hn : ts.length ≤ 100000) :
    Calls Try.prog 44 #[.pointer (some ⟨g, 0, none⟩), .int .i64 (i : Nat), .int .i64 (j : Nat)] w fun e w' => e = .returned (.bool (decide (Tm.lt (at_ ts i) (at_ ts j)))) ∧ Chg [] w w' := by
  obtain ⟨f, H, _⟩ := H
  exact ahead_any H hi hj hn
end
/-- In the midst of up: the timers are ts1 now. -/
structure UpMid (w : World) (g h b c m p : Nat) (ts : List Tm) (i j : Nat) (ts1 : List Tm) (w1 : World) : Prop where
  hm : Hm w1 g h b c m p ts1
  perm : ts1.Perm ts
  up : UpAt (at_ ts1) ts.length i j
  lt : j < ts.length
  chg : Chg [g, h, b] w w1
theorem UpMid.len {w w1 : World} {g h b c m p i j : Nat} {ts ts1 : List Tm} (H : UpMid w g h b c m p ts i j ts1 w1) : ts1.length = ts.length := H.perm.length_eq
def UpEnds (w : World) (g h b c m p : Nat) (ts : List Tm) (i : Nat) (w' : World) : Prop :=
  ∃ ts', ts'.Perm ts ∧ DownI (at_ ts') ts.length i ∧ Hm w' g h b c m p ts' ∧ Chg [g, h, b] w w'
theorem UpMid.stop {w w1 w2 : World} {g h b c m p i j : Nat} {ts ts1 : List Tm} (H : UpMid w g h b c m p ts i j ts1 w1) (hs : 0 < j → ¬ Tm.lt (at_ ts1 j) (at_ ts1 (par j))) (hc : Chg [] w1 w2) : UpEnds w g h b c m p ts i w2 :=
  ⟨ts1, H.perm, H.up.stop hs, H.hm.quiet hc, H.chg.then hc⟩
theorem UpMid.go {w w1 w2 : World} {g h b c m p i j : Nat} {ts ts1 : List Tm} (H : UpMid w g h b c m p ts i j ts1 w1) (j0 : 0 < j) (hl : Tm.lt (at_ ts1 j) (at_ ts1 (par j))) (h2 : Hm w2 g h b c m p (swp ts1 j (par j))) (hc : Chg [g, h, b] w1 w2) :
    UpMid w g h b c m p ts i (par j) (swp ts1 j (par j)) w2 := by
  have e := H.len
  have hp := par_lt j0
  have hlt := H.lt
  refine ⟨h2, (swp_perm (by omega) (by omega)).trans H.perm, .inr ?_, by omega, H.chg.trans hc (fun k hk => .inl hk)⟩
  rw [swp_at (by omega) (by omega)]
  exact H.up.hole.up j0 hlt hl
def intOf' : Value → Int | .int _ q => q | _ => 0
theorem above (j : Nat) : Int.tdiv ((j : Int) - 1) 2 = (par j : Nat) := by
  unfold par
  rcases Nat.eq_zero_or_pos j with h | h
  · subst h; decide
  · rw [show (j : Int) - 1 = ((j - 1 : Nat) : Int) by omega]
    rfl
set_option maxHeartbeats 3200000 in
set_option maxRecDepth 100000 in
theorem up_any {w : World} {g h b c m p : Nat} {ts : List Tm} (H : Hm w g h b c m p ts) {i : Nat} (hi : i < ts.length) (hn : ts.length ≤ 100000) (hm : m ≤ 1000000) (hH : Hole (at_ ts) ts.length i) :
    Calls Try.prog 32 #[.pointer (some ⟨g, 0, none⟩), .int .i64 (i : Nat)] w fun e w' => e = .returned (.tuple #[]) ∧ UpEnds w g h b c m p ts i w' := by
  have h0 : UpMid w g h b c m p ts i i ts w := ⟨H, List.Perm.refl _, .inl ⟨rfl, hH⟩, hi, Chg.refl _ _⟩
  have H0 := Lib.hid h0
  have HN := Lib.hid hn
  have hi' : i ≤ 100000 := by omega
  clear h0 H hi hH
  go_enter Try.func32, Try.ntmps32
  go_wp2
  refine wp_scope_jumps 0 (fun a' w' => ∃ (j : Nat) (ts1 : List Tm) (u4 u5 u6 u7 u8 u9 u10 u11 u12 u13 u14 u15 u16 : Value), a' = { tmps := #[.pointer (some ⟨g, 0, none⟩), .int .i64 j, undef, undef, u4, u5, u6, u7, u8, u9, u10, u11, u12, u13, u14, u15, u16], defers := [] } ∧ Hid (UpMid w g h b c m p ts i j ts1 w')) (fun a' _ => (intOf' (a'.tmps.getD 1 undef)).toNat) rfl ?_ ?_
  · have hlt := H0.out.lt
    have hd := above i
    have hp : par i ≤ i := by unfold par; omega
    have HA := H0.out.hm.ahead (i := i) (j := par i) hlt (by omega) hn
    have HSw := Lib.hid (fun W (hc : Chg [] w W) => (H0.out.hm.quiet hc).swap (i := i) (j := par i) hlt (by omega) hn hm)
    go_wp2
    go_step3
    by_cases hl : Tm.lt (at_ ts i) (at_ ts (par i))
    · have j0 : 0 < i := by
        rcases Nat.eq_zero_or_pos i with h | h
        · exfalso; rw [h] at hl; exact Tm.irrefl _ hl
        · exact h
      have HLT := Lib.hid (par_lt j0)
      have HG := Lib.hid (fun w2 (h2 : Hm w2 g h b c m p (swp ts i (par i))) (hc : Chg [g, h, b] w w2) => H0.out.go j0 hl h2 hc)
      rw [decide_eq_true hl] at HA
      clear hl j0
      go_wp2_with (first
        | (go_at_call 44; refine HA.mono ?_; rintro e w1 ⟨rfl, hc⟩; have HC := Lib.hid hc; clear hc)
        | (go_at_call 42; refine (HSw.out _ HC.out).mono ?_; rintro e w2 ⟨rfl, hs2, hc2⟩; have HS2 := Lib.hid hs2; have HC2 := Lib.hid ((Chg.any HC.out).trans hc2 (fun k hk => .inl hk)); clear hs2 hc2))
      go_step3
      exact ⟨rfl, ⟨par i, swp ts i (par i), _, _, _, _, _, _, _, _, _, _, _, _, _, rfl, Lib.hid (HG.out _ HS2.out HC2.out)⟩⟩
    · rw [decide_eq_false hl] at HA
      have HST := Lib.hid (fun w2 (hc : Chg [] w w2) => H0.out.stop (fun _ => hl) hc)
      clear hl
      go_wp2_with (go_at_call 44; refine HA.mono ?_; rintro e w1 ⟨rfl, hc⟩; have HC := Lib.hid hc; clear hc)
      simp only [Exit.jump]
      go_end0
      exact ⟨rfl, HST.out _ HC.out⟩
  · rintro a' wr ⟨j, ts1, u4, u5, u6, u7, u8, u9, u10, u11, u12, u13, u14, u15, u16, rfl, HM⟩
    have hle := HM.out.len
    have hlt := HM.out.lt
    have hj' : j ≤ 100000 := by omega
    have hd := above j
    have hp : par j ≤ j := by unfold par; omega
    have HA := HM.out.hm.ahead (i := j) (j := par j) (by omega) (by omega) (by omega)
    have HSw := Lib.hid (fun W (hc : Chg [] wr W) => (HM.out.hm.quiet hc).swap (i := j) (j := par j) (by omega) (by omega) (by omega) hm)
    clear hle hlt
    by_cases hl : Tm.lt (at_ ts1 j) (at_ ts1 (par j))
    · have j0 : 0 < j := by
        rcases Nat.eq_zero_or_pos j with h | h
        · exfalso; rw [h] at hl; exact Tm.irrefl _ hl
        · exact h
      have HLT := Lib.hid (par_lt j0)
      have HG := Lib.hid (fun w2 (h2 : Hm w2 g h b c m p (swp ts1 j (par j))) (hc : Chg [g, h, b] wr w2) => HM.out.go j0 hl h2 hc)
      rw [decide_eq_true hl] at HA
      clear hl j0
      go_wp2_with (first
        | (go_at_call 44; refine HA.mono ?_; rintro e w1 ⟨rfl, hc⟩; have HC := Lib.hid hc; clear hc)
        | (go_at_call 42; refine (HSw.out _ HC.out).mono ?_; rintro e w2 ⟨rfl, hs2, hc2⟩; have HS2 := Lib.hid hs2; have HC2 := Lib.hid ((Chg.any HC.out).trans hc2 (fun k hk => .inl hk)); clear hs2 hc2))
      go_step3
      exact ⟨rfl, ⟨par j, swp ts1 j (par j), _, _, _, _, _, _, _, _, _, _, _, _, _, rfl, Lib.hid (HG.out _ HS2.out HC2.out)⟩, by simp [intOf']; have := HLT.out; omega⟩
    · rw [decide_eq_false hl] at HA
      have HST := Lib.hid (fun w2 (hc : Chg [] wr w2) => HM.out.stop (fun _ => hl) hc)
      clear hl
      go_wp2_with (go_at_call 44; refine HA.mono ?_; rintro e w1 ⟨rfl, hc⟩; have HC := Lib.hid hc; clear hc)
      simp only [Exit.jump]
      go_end0
      exact ⟨rfl, HST.out _ HC.out⟩
end Go.Proofs
