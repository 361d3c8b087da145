import Derived.Test.YtpclhbfmocjgeaaM8
import Derived.Test.YtpclhbfmocjgeaaM4
import Derived.Deep.RegionHeld3
import Derived.BigRegion
import Derived.IntWalk
import Derived.Test.YtpclhbfmocjgeaaM6
import Derived.Deep.RegionHeldLaw
section
namespace Go.Proofs
open Go.RowKit Go.Shelf
set_option linter.unusedVariables false
set_option linter.unusedSimpArgs false

set_option maxRecDepth 100000 in
theorem rmerge_no {w : World} {h : Nat} {S : List Nat} {r : RTab} (hr : RefAt w h S r) (h0 : 0 < r.L.length) {i q : Int} (hq : r.is i q = false) :
    Calls Try.prog 39 #[ptr h, .agg #[.int .i64 i, .int .u64 q]] w fun e w' => e = .returned (.int .i64 11) ∧ Chg [] w w' := by
  have HI := Lib.hid (fun W (hW : Chg [] w W) => ris_any (hr.quiet hW) h0 i q)
  rw [hq] at HI
  clear hq hr
  go_enter Try.func39, Try.ntmps39
  go_wp2_with (first | (go_at_call 36; refine (HI.out _ ((Chg.refl _ _).alloc _)).mono ?_; rintro e w1 ⟨rfl, hc⟩; have HC1 := Lib.hid (((Chg.refl [] w).alloc _).then hc); clear hc))
  go_ret
  exact ⟨rfl, HC1.out⟩
/-! ### Both in memory -/
structure Pair (w : World) (c : Nat) (S : List Nat) (h : Nat) (S2 : List Nat) (M : Nat) (t : Tab Dm) (r : RTab) (ch : Nat → List (Int × Int)) : Prop where
  dm : DomAt w c S t
  rf : RefAt w h S2 r
  sim : Sim M t r ch
  ap : ∀ k ∈ S, k ∉ S2
/-- What was there stays, or goes for good. -/
structure Grows (r r' : RTab) : Prop where
  len : r'.L.length = r.L.length
  gen : ∀ k, (r.pl k).gen ≤ (r'.pl k).gen
  is : ∀ k, (r'.pl k).gen = (r.pl k).gen → (r.pl k).is = true → (r'.pl k).is = true
theorem Grows.refl (r : RTab) : Grows r r := ⟨rfl, fun _ => Int.le_refl _, fun _ _ h => h⟩
theorem Grows.trans {a b c : RTab} (h : Grows a b) (k : Grows b c) : Grows a c :=
  ⟨k.len.trans h.len, fun j => Int.le_trans (h.gen j) (k.gen j), fun j e hi => by
    have h1 := h.gen j
    have h2 := k.gen j
    exact k.is j (by omega) (h.is j (by omega) hi)⟩
theorem Grows.set1 {r : RTab} {k : Nat} (hk : k < r.L.length) (o u : Int) : Grows r (r.set1 k o u) :=
  ⟨set1_len, fun j => by rw [(set1_same hk j).1]; exact Int.le_refl _, fun j _ h => by rw [(set1_same hk j).2.1]; exact h⟩
theorem Grows.on {r : RTab} {f : Nat} (h0 : r.at0 = f) (hl : f < r.L.length) (i q gs cpu per : Int) : Grows r (r.on i q gs cpu per) :=
  ⟨on_len, fun j => by rw [on_pl h0 hl]; split; (next e => subst e; exact Int.le_refl _); exact Int.le_refl _, fun j _ h => by rw [on_pl h0 hl]; split; rfl; exact h⟩
theorem Grows.off {r : RTab} {k : Nat} (hk : k < r.L.length) : Grows r (r.off k) := by
  refine ⟨off_len, fun j => ?_, fun j e h => ?_⟩
  · rw [off_pl hk]
    by_cases e : j = k
    · subst e; rw [if_pos rfl]; show (r.pl j).gen ≤ (r.pl j).gen + 1; omega
    · rw [if_neg e]; exact Int.le_refl _
  · rw [off_pl hk] at e ⊢
    by_cases ek : j = k
    · subst ek; rw [if_pos rfl] at e; simp only at e; omega
    · rw [if_neg ek]; exact h
abbrev PQ := RTab → (Nat → List (Int × Int)) → Prop
def PTurns (Q : PQ) (c : Nat) (S : List Nat) (h : Nat) (S2 : List Nat) (M : Nat) (w w' : World) : Prop :=
  ∃ S' S2' t' r' ch', Pair w' c S' h S2' (M + 1) t' r' ch' ∧ (∀ k ∈ S', k ∈ S ∨ w.heap.size ≤ k) ∧ (∀ k ∈ S2', k ∈ S2 ∨ w.heap.size ≤ k) ∧ Chg (S ++ S2) w w' ∧ Q r' ch'
theorem Sim.more {M : Nat} {t : Tab Dm} {r : RTab} {ch : Nat → List (Int × Int)} (h : Sim M t r ch) (hM : M + 1 ≤ 1000) : Sim (M + 1) t r ch :=
  { h with held := { h.held with chs := fun k hk => ⟨(h.held.chs k hk).1, by have := (h.held.chs k hk).2; omega⟩, nums := fun k hk => by obtain ⟨a, b, c, d, e⟩ := h.held.nums k hk; exact ⟨a, b, c, d, by omega⟩, m := hM } }
section
variable {w W w2 : World} {c h M : Nat} {S S2 : List Nat} {t t' : Tab Dm} {r r' : RTab} {ch ch' : Nat → List (Int × Int)}
theorem Pair.c_off (P : Pair w c S h S2 M t r ch) : c ∉ S2 := by
  obtain ⟨g, h1, _⟩ := P.dm
  exact P.rf.not_box h1 (by decide) (by decide) (by decide)
theorem Pair.ref_at (P : Pair w c S h S2 M t r ch) (hT : DomTurns c S t' w W) : RefAt W h S2 r := by
  obtain ⟨S1, h1, h2, h3⟩ := hT
  exact P.rf.chg h3 (fun k hk hS => P.ap k hS hk)
theorem Pair.turn (P : Pair w c S h S2 M t r ch) (hT : DomTurns c S t' w W) (hR : RTurns h S2 r' W w2) (hs : Sim (M + 1) t' r' ch') {Q : PQ} (hQ : Q r' ch') : PTurns Q c S h S2 M w w2 ∧ Chg S2 W w2 := by
  have hrW := P.ref_at hT
  obtain ⟨S1, h1, h2, h3⟩ := hT
  obtain ⟨SR1, k1, k2, k3⟩ := hR
  have hc2 : c ∉ S2 := P.c_off
  have ha : ∀ k ∈ S1, k ∉ S2 := fun k hk hm => by
    rcases h2 k hk with hk | hk
    · exact P.ap k hk hm
    · have := P.rf.lt k hm; omega
  have hl := h1.lt
  refine ⟨⟨S1, SR1, t', r', ch', ⟨h1.chg k3 hc2 ha, k1, hs, fun k hk hm => ?_⟩, h2, fun k hk => (k2 k hk).imp id (fun h => Nat.le_trans h3.size h), ?_, hQ⟩, k3⟩
  · rcases k2 k hm with hm | hm
    · exact ha k hk hm
    · have := hl k (List.mem_cons_of_mem _ hk); omega
  · exact (h3.mono (S' := S ++ S2) (fun k hk => .inl (List.mem_append.2 (.inl hk)))).trans k3 (fun k hk => .inl (List.mem_append.2 (.inr hk)))
theorem Pair.stay (P : Pair w c S h S2 M t r ch) (hM : M + 1 ≤ 1000) (hT : DomTurns c S t w W) (hR : RTurns h S2 r W w2) {Q : PQ} (hQ : Q r ch) : PTurns Q c S h S2 M w w2 ∧ Chg S2 W w2 := P.turn hT hR (P.sim.more hM) hQ
theorem Pair.quiet (P : Pair w c S h S2 M t r ch) (hc : Chg [] w W) : Pair W c S h S2 M t r ch := ⟨P.dm.quiet hc, P.rf.quiet hc, P.sim, P.ap⟩
end
/-- The one has acted: the other one then answers the same, and both are again a pair. -/
def Half (Q : PQ) (f : Nat) (args : Array Value) (a : Ending) (c : Nat) (S : List Nat) (h : Nat) (S2 : List Nat) (M : Nat) (w w1 : World) : Prop :=
  ∃ t', DomTurns c S t' w w1 ∧ ∀ W, DomTurns c S t' w W → Calls Try.prog f args W fun e w2 => e = a ∧ PTurns Q c S h S2 M w w2 ∧ Chg S2 W w2
section
variable {Q : PQ} {f : Nat} {args : Array Value} {a : Ending} {c h M : Nat} {S S2 : List Nat} {w w1 w2 : World}
theorem Half.chg (H : Half Q f args a c S h S2 M w w1) : Chg S w w1 := by obtain ⟨t', ⟨S', h1, h2, h3⟩, _⟩ := H; exact h3
theorem Half.call (H : Half Q f args a c S h S2 M w w1) {W : World} (hc : Chg [] w1 W) : Calls Try.prog f args W fun e w2 => e = a ∧ PTurns Q c S h S2 M w w2 ∧ Chg S2 W w2 := by
  obtain ⟨t', h1, h2⟩ := H
  exact h2 W (h1.later hc)
end
section
variable {w : World} {c h M : Nat} {S S2 : List Nat} {t : Tab Dm} {r : RTab} {ch : Nat → List (Int × Int)}
theorem Pair.n0 (P : Pair w c S h S2 M t r ch) : 0 < r.L.length := P.sim.held.n0
theorem pair_join (P : Pair w c S h S2 M t r ch) (hM : M + 1 ≤ 1000) {i q : Int} (i0 : -9223372036854775808 ≤ i) (i1 : i ≤ 9223372036854775807) :
    Calls Try.prog 19 #[ptr c, .agg #[.int .i64 i, .int .u64 q]] w fun e w1 => ∃ E, e = .returned (.int .i64 E) ∧ Half (fun r' _ => Grows r r') 40 #[ptr h, .agg #[.int .i64 i, .int .u64 q]] (.returned (.int .i64 E)) c S h S2 M w w1 := by
  obtain ⟨L, hU, _, hL1, hL2⟩ := Sim.chain P.sim.held i q
  refine (Join_any P.dm P.sim.oks (L := L) (by rw [P.sim.par]; exact hU) i0 i1).mono ?_
  rintro e w1 ⟨rfl, hD, hc⟩
  refine ⟨_, rfl, _, ⟨S, hD, fun k hk => .inl hk, hc⟩, fun W hTW => ?_⟩
  refine (rjoin_any (P.ref_at hTW) P.n0 P.sim.held.fine P.sim.held.Chs).mono ?_
  rintro e w2 ⟨rfl, hR⟩
  unfold joinE at hTW hD ⊢
  rw [P.sim.has] at hTW hD ⊢
  cases hq : r.is i q with
  | false =>
    rw [hq] at hTW hR hD
    simp only [Bool.false_eq_true, if_false, Int.reduceEq] at hTW hR hD ⊢
    exact ⟨trivial, P.stay hM hTW hR (Grows.refl r)⟩
  | true =>
    have hat := P.sim.at_ hq
    rw [hq, hat] at hTW hD
    rw [hq] at hR
    obtain rfl := hL1 hq
    obtain ⟨k, rfl, hk, h1, rfl⟩ := is_pl.1 hq
    rw [hat]
    simp only [if_true] at hTW hR hD ⊢
    have hroom := P.sim.held.room k h1
    have hnum := (P.sim.held.nums k hk).2.1
    have e1 : (r.get ch (k : Nat) (r.pl k).gen).gs = (r.pl k).gs ∧ (r.get ch (k : Nat) (r.pl k).gen).own = (r.pl k).own ∧ (r.get ch (k : Nat) (r.pl k).gen).cgs = r.cgs (k : Nat) (r.pl k).gen := by unfold RTab.get; simp
    rw [e1.1, e1.2.1, e1.2.2] at hTW hR hD ⊢
    by_cases hfull : (r.pl k).gs ≤ (r.pl k).own + r.cgs (k : Nat) (r.pl k).gen
    · have hz : (r.pl k).gs - r.cgs (k : Nat) (r.pl k).gen - (r.pl k).own = 0 := by omega
      simp only [if_pos hfull, if_pos hz, Int.reduceEq, if_false] at hTW hR ⊢
      exact ⟨trivial, P.stay hM hTW hR (Grows.refl r)⟩
    · have hz : ¬ (r.pl k).gs - r.cgs (k : Nat) (r.pl k).gen - (r.pl k).own = 0 := by omega
      simp only [if_neg hfull, if_neg hz, if_true] at hTW hR ⊢
      simp only [Int.toNat_natCast] at hTW hR
      exact ⟨trivial, P.turn hTW hR ((P.sim.settle h1 1 (by omega) (by omega)).more hM) (Grows.set1 hk _ _)⟩
theorem pair_leave (P : Pair w c S h S2 M t r ch) (hM : M + 1 ≤ 1000) {i q : Int} (i0 : -9223372036854775808 ≤ i) (i1 : i ≤ 9223372036854775807) :
    Calls Try.prog 20 #[ptr c, .agg #[.int .i64 i, .int .u64 q]] w fun e w1 => ∃ E, e = .returned (.int .i64 E) ∧ Half (fun r' _ => Grows r r') 41 #[ptr h, .agg #[.int .i64 i, .int .u64 q]] (.returned (.int .i64 E)) c S h S2 M w w1 := by
  obtain ⟨L, hU, _, hL1, hL2⟩ := Sim.chain P.sim.held i q
  refine (Leave_any P.dm P.sim.oks (L := L) (by rw [P.sim.par]; exact hU) i0 i1).mono ?_
  rintro e w1 ⟨rfl, hD, hc⟩
  refine ⟨_, rfl, _, ⟨S, hD, fun k hk => .inl hk, hc⟩, fun W hTW => ?_⟩
  refine (rleave_any (P.ref_at hTW) P.n0 P.sim.held.fine).mono ?_
  rintro e w2 ⟨rfl, hR⟩
  unfold leaveE at hTW hD ⊢
  rw [P.sim.has] at hTW hD ⊢
  cases hq : r.is i q with
  | false =>
    rw [hq] at hTW hR hD
    simp only [Bool.false_eq_true, if_false, Int.reduceEq] at hTW hR hD ⊢
    exact ⟨trivial, P.stay hM hTW hR (Grows.refl r)⟩
  | true =>
    have hat := P.sim.at_ hq
    rw [hq, hat] at hTW hD
    rw [hq] at hR
    obtain rfl := hL1 hq
    obtain ⟨k, rfl, hk, h1, rfl⟩ := is_pl.1 hq
    rw [hat]
    simp only [if_true, Int.toNat_natCast] at hTW hR hD ⊢
    have hroom := P.sim.held.room k h1
    have hnum := (P.sim.held.nums k hk).2.1
    have e1 : (r.get ch (k : Nat) (r.pl k).gen).own = (r.pl k).own := by unfold RTab.get; simp
    rw [e1] at hTW hD ⊢
    by_cases hz : (r.pl k).own = 0
    · simp only [if_pos hz, Int.reduceEq, if_false] at hTW hR ⊢
      exact ⟨trivial, P.stay hM hTW hR (Grows.refl r)⟩
    · simp only [if_neg hz, if_true] at hTW hR ⊢
      have := P.sim.settle h1 (-1) (by omega) (by omega)
      exact ⟨trivial, P.turn hTW hR (this.more hM) (Grows.set1 hk _ _)⟩
theorem pair_use (P : Pair w c S h S2 M t r ch) (hM : M + 1 ≤ 1000) {i q : Int} (i0 : -9223372036854775808 ≤ i) (i1 : i ≤ 9223372036854775807) {n : Int} (n0 : 0 ≤ n) (n1 : n < 18446744073709551616) :
    Calls Try.prog 21 #[ptr c, .agg #[.int .i64 i, .int .u64 q], .int .u64 n] w fun e w1 => ∃ E, e = .returned (.int .i64 E) ∧ Half (fun r' _ => Grows r r') 42 #[ptr h, .agg #[.int .i64 i, .int .u64 q], .int .u64 n] (.returned (.int .i64 E)) c S h S2 M w w1 := by
  refine (Use_any P.dm P.sim.oks i0 i1 n n0 n1).mono ?_
  rintro e w1 ⟨rfl, hD, hc⟩
  refine ⟨_, rfl, _, ⟨S, hD, fun k hk => .inl hk, hc⟩, fun W hTW => ?_⟩
  refine (ruse_any (P.ref_at hTW) P.n0 P.sim.held.fine n n0 n1).mono ?_
  rintro e w2 ⟨rfl, hR⟩
  unfold staleE
  rw [P.sim.has]
  cases hq : r.is i q with
  | false =>
    rw [hq] at hR
    simp only [Bool.false_eq_true, if_false] at hR ⊢
    rw [Tab.upd_no (by rw [P.sim.has]; exact hq)] at hTW
    exact ⟨trivial, P.stay hM hTW hR (Grows.refl r)⟩
  | true =>
    rw [hq] at hR
    obtain ⟨k, rfl, hk, h1, rfl⟩ := is_pl.1 hq
    simp only [if_true, Int.toNat_natCast] at hR ⊢
    have hnum := (P.sim.held.nums k hk).2.2.2.1
    refine ⟨trivial, P.turn hTW hR ((P.sim.usedTo h1 _ (addS (r.pl k).used n) (fun x hx => by rw [hx]) ?_ ?_).more hM) (Grows.set1 hk _ _)⟩
    · unfold addS; split <;> omega
    · unfold addS; split <;> omega
theorem pair_clear (P : Pair w c S h S2 M t r ch) (hM : M + 1 ≤ 1000) {i q : Int} (i0 : -9223372036854775808 ≤ i) (i1 : i ≤ 9223372036854775807) :
    Calls Try.prog 22 #[ptr c, .agg #[.int .i64 i, .int .u64 q]] w fun e w1 => ∃ E, e = .returned (.int .i64 E) ∧ Half (fun r' _ => Grows r r') 43 #[ptr h, .agg #[.int .i64 i, .int .u64 q]] (.returned (.int .i64 E)) c S h S2 M w w1 := by
  refine (Clear_any P.dm i0 i1).mono ?_
  rintro e w1 ⟨rfl, hD, hc⟩
  refine ⟨_, rfl, _, ⟨S, hD, fun k hk => .inl hk, hc⟩, fun W hTW => ?_⟩
  refine (rclear_any (P.ref_at hTW) P.n0 P.sim.held.fine).mono ?_
  rintro e w2 ⟨rfl, hR⟩
  unfold staleE
  rw [P.sim.has]
  cases hq : r.is i q with
  | false =>
    rw [hq] at hR
    simp only [Bool.false_eq_true, if_false] at hR ⊢
    rw [Tab.upd_no (by rw [P.sim.has]; exact hq)] at hTW
    exact ⟨trivial, P.stay hM hTW hR (Grows.refl r)⟩
  | true =>
    rw [hq] at hR
    obtain ⟨k, rfl, hk, h1, rfl⟩ := is_pl.1 hq
    simp only [if_true, Int.toNat_natCast] at hR ⊢
    exact ⟨trivial, P.turn hTW hR ((P.sim.usedTo h1 _ 0 (fun x hx => rfl) (by omega) (by omega)).more hM) (Grows.set1 hk _ _)⟩
/-- The answer of what makes a domain. -/
abbrev refAns (i q E : Int) : Ending := .returned (.tuple #[.agg #[.int .i64 i, .int .u64 q], .int .i64 E])
theorem carve_same (P : Pair w c S h S2 M t r ch) (i q gs cpu per : Int) : rcarveE r ch i q gs cpu per = carveE t i q gs cpu per := by
  unfold rcarveE carveE
  cases hm : mayD gs cpu per with
  | false => rfl
  | true =>
    rw [P.sim.has]
    cases hq : r.is i q with
    | false => rfl
    | true =>
      rw [P.sim.at_ hq]
      obtain ⟨k, rfl, hk, h1, rfl⟩ := is_pl.1 hq
      have hroom := P.sim.held.room k h1
      have e1 : (r.get ch (k : Nat) (r.pl k).gen).gs = (r.pl k).gs ∧ (r.get ch (k : Nat) (r.pl k).gen).own = (r.pl k).own ∧ (r.get ch (k : Nat) (r.pl k).gen).cgs = r.cgs (k : Nat) (r.pl k).gen ∧ (r.get ch (k : Nat) (r.pl k).gen).cpu = (r.pl k).cpu ∧ (r.get ch (k : Nat) (r.pl k).gen).car = r.car (k : Nat) (r.pl k).gen := by unfold RTab.get; simp
      rw [e1.1, e1.2.1, e1.2.2.1, e1.2.2.2.1, e1.2.2.2.2]
      have ef : t.frees = 0 ↔ r.F = [] := by
        rw [frees_len P.sim]
        constructor
        · intro e; exact List.length_eq_zero_iff.1 (by omega)
        · intro e; rw [e]; rfl
      have es : subS (r.pl k).cpu (r.car (k : Nat) (r.pl k).gen) = (r.pl k).cpu - r.car (k : Nat) (r.pl k).gen := by unfold subS; rw [if_neg (by omega)]
      rw [es]
      have ec : ((r.pl k).gs < gs + r.cgs (k : Nat) (r.pl k).gen + (r.pl k).own ∨ (r.pl k).cpu < cpu + r.car (k : Nat) (r.pl k).gen) ↔ ((r.pl k).gs - r.cgs (k : Nat) (r.pl k).gen - (r.pl k).own < gs ∨ (r.pl k).cpu - r.car (k : Nat) (r.pl k).gen < cpu) := by omega
      simp only [if_true, ec, ef]
theorem pair_carve (P : Pair w c S h S2 M t r ch) (hM : M + 1 ≤ 1000) {i q gs cpu per : Int} (i0 : -9223372036854775808 ≤ i) (i1 : i ≤ 9223372036854775807) (c0 : 0 ≤ cpu) (p0 : 0 ≤ per) :
    Calls Try.prog 17 #[ptr c, .agg #[.int .i64 i, .int .u64 q], .int .i64 gs, .int .u64 cpu, .int .u64 per] w fun e w1 => ∃ j p E, e = refAns j p E ∧ (0 ≤ j ∧ j ≤ 4096) ∧ Half (fun r' ch' => Grows r r' ∧ (E ≠ 0 → r' = r ∧ ch' = ch) ∧ (E = 0 → ∃ f k, Gets t r f ∧ i = ((k : Nat) : Int) ∧ q = (r.pl k).gen ∧ (r.pl k).is = true ∧ j = ((f : Nat) : Int) ∧ p = (r.pl f).gen ∧ r' = r.on i q gs cpu per ∧ ch' = chOn r ch f (ch k))) 38 #[ptr h, .agg #[.int .i64 i, .int .u64 q], .int .i64 gs, .int .u64 cpu, .int .u64 per] (refAns j p E) c S h S2 M w w1 := by
  have hsame := carve_same P i q gs cpu per
  have hFl : r.F.length ≤ 1000 := by
    have := frees_len P.sim
    unfold Tab.frees at this
    have h1 := P.sim.held.n1
    have h2 := P.sim.size
    have h3 : t.freed.length ≤ t.spots.length := by
      have hnd := P.dm.wf.nodup
      have hlt : ∀ x ∈ t.freed, x < t.spots.length := fun x hx => by obtain ⟨s, hs, _⟩ := P.dm.wf.free x hx; exact (List.getElem?_eq_some_iff.1 hs).1
      exact nodup_len hnd hlt
    have h4 := P.sim.lenle
    omega
  have hFlt : ∀ f ∈ r.F, f < r.L.length := by
    intro f hf
    rw [P.sim.free] at hf
    have h0 := P.sim.held.n0
    rcases List.mem_append.1 hf with hf | hf
    · unfold newF at hf; simp at hf; obtain ⟨a, _, rfl⟩ := hf; omega
    · obtain ⟨s, hs, _⟩ := P.dm.wf.free f hf
      have := (List.getElem?_eq_some_iff.1 hs).1
      have := P.sim.lenle; omega
  refine (Carve_any P.dm P.sim.oks i0 i1 c0 p0).mono ?_
  rintro e w1 (⟨hne, rfl, hD, hc⟩ | ⟨he, rfl, hT⟩)
  · refine ⟨_, _, _, rfl, by omega, t, ⟨S, hD, fun k hk => .inl hk, hc.any⟩, fun W hTW => ?_⟩
    refine (rcarve_any (P.ref_at hTW) P.n0 P.sim.held.fine P.sim.held.Chs hFlt hFl c0 p0).mono ?_
    rintro e w2 (⟨hne2, rfl, hc2⟩ | ⟨he2, _⟩)
    · exact ⟨by rw [hsame], P.stay hM hTW (RTurns.refl (P.ref_at hTW) hc2) ⟨Grows.refl r, fun _ => ⟨rfl, rfl⟩, fun e => absurd e hne⟩⟩
    · rw [hsame] at he2; exact absurd he2 hne
  · have he2 := hsame.trans he
    have hparts : mayD gs cpu per = true ∧ r.is i q = true ∧ r.F ≠ [] ∧ ¬ ((r.get ch i q).gs < gs + (r.get ch i q).cgs + (r.get ch i q).own ∨ (r.get ch i q).cpu < cpu + (r.get ch i q).car) := by
      unfold rcarveE at he2
      cases hm : mayD gs cpu per with
      | false => rw [hm] at he2; simp at he2
      | true =>
        rw [hm] at he2
        cases hq : r.is i q with
        | false => rw [hq] at he2; simp at he2
        | true =>
          rw [hq] at he2
          simp only [if_true] at he2
          by_cases hb : ((r.get ch i q).gs < gs + (r.get ch i q).cgs + (r.get ch i q).own ∨ (r.get ch i q).cpu < cpu + (r.get ch i q).car)
          · rw [if_pos hb] at he2; simp at he2
          · rw [if_neg hb] at he2
            refine ⟨rfl, rfl, fun e => ?_, hb⟩
            rw [if_pos e] at he2; simp at he2
    obtain ⟨hm, hq, hF, hb⟩ := hparts
    obtain ⟨f, hg⟩ := P.sim.gets hF
    obtain ⟨k, rfl, hk, h1, rfl⟩ := is_pl.1 hq
    have e1 : (r.get ch (k : Nat) (r.pl k).gen).gs = (r.pl k).gs ∧ (r.get ch (k : Nat) (r.pl k).gen).own = (r.pl k).own ∧ (r.get ch (k : Nat) (r.pl k).gen).cgs = r.cgs (k : Nat) (r.pl k).gen ∧ (r.get ch (k : Nat) (r.pl k).gen).cpu = (r.pl k).cpu ∧ (r.get ch (k : Nat) (r.pl k).gen).car = r.car (k : Nat) (r.pl k).gen := by unfold RTab.get; simp
    rw [e1.1, e1.2.1, e1.2.2.1, e1.2.2.2.1, e1.2.2.2.2] at hb
    unfold mayD at hm
    simp at hm
    have hfl := hg.lt
    have hn1 := P.sim.held.n1
    rw [hg.takeAt]
    refine ⟨_, _, _, rfl, by omega, _, hT, fun W hTW => ?_⟩
    refine (rcarve_any (P.ref_at hTW) P.n0 P.sim.held.fine P.sim.held.Chs hFlt hFl c0 p0).mono ?_
    rintro e w2 (⟨hne2, _⟩ | ⟨_, rfl, hR⟩)
    · exact absurd he2 hne2
    · refine ⟨by rw [hg.at0, hg.gen], P.turn hTW hR (P.sim.on hM hg rfl rfl h1 (by omega) (by omega) c0 (by omega) (by omega) (by omega)) ⟨Grows.on hg.at0 hg.lt _ _ _ _ _, fun e => absurd rfl e, fun _ => ⟨f, k, hg, rfl, rfl, h1, rfl, hg.gen, rfl, rfl⟩⟩⟩
theorem pair_merge (P : Pair w c S h S2 M t r ch) (hM : M + 1 ≤ 1000) {i q : Int} (i0 : -9223372036854775808 ≤ i) (i1 : i ≤ 9223372036854775807) :
    Calls Try.prog 18 #[ptr c, .agg #[.int .i64 i, .int .u64 q]] w fun e w1 => ∃ E, e = .returned (.int .i64 E) ∧ Half (fun r' _ => Grows r r') 39 #[ptr h, .agg #[.int .i64 i, .int .u64 q]] (.returned (.int .i64 E)) c S h S2 M w w1 := by
  have hFl : r.F.length ≤ 1000 := by
    have := frees_len P.sim
    unfold Tab.frees at this
    have h1 := P.sim.held.n1
    have h2 := P.sim.size
    have h3 : t.freed.length ≤ t.spots.length := by
      have hnd := P.dm.wf.nodup
      have hlt : ∀ x ∈ t.freed, x < t.spots.length := fun x hx => by obtain ⟨s, hs, _⟩ := P.dm.wf.free x hx; exact (List.getElem?_eq_some_iff.1 hs).1
      exact nodup_len hnd hlt
    have h4 := P.sim.lenle
    omega
  cases hq : r.is i q with
  | false =>
    have hE : mergeE t i q = 11 := by unfold mergeE; rw [P.sim.has, hq]; rfl
    refine (Merge_no P.dm i0 i1 (by rw [hE]; decide)).mono ?_
    rintro e w1 ⟨rfl, hc⟩
    refine ⟨_, rfl, t, DomTurns.refl P.dm hc, fun W hTW => ?_⟩
    refine (rmerge_no (P.ref_at hTW) P.n0 hq).mono ?_
    rintro e w2 ⟨rfl, hc2⟩
    exact ⟨by rw [hE], P.stay hM hTW (RTurns.refl (P.ref_at hTW) hc2) (Grows.refl r)⟩
  | true =>
    obtain ⟨k, rfl, hk, h1, rfl⟩ := is_pl.1 hq
    have hat := P.sim.at_ hq
    have hgen := (P.sim.held.nums k hk).2.2.2.2
    have hm := P.sim.held.m
    have hsame : rmergeE r ch (k : Nat) (r.pl k).gen = mergeE t (k : Nat) (r.pl k).gen := by
      unfold rmergeE mergeE
      rw [P.sim.has, hq, hat]
      have : (r.get ch (k : Nat) (r.pl k).gen).pg = (r.pl ((k : Nat) : Int).toNat).pg := by unfold RTab.get; rfl
      rw [this]
    by_cases he : mergeE t (k : Nat) (r.pl k).gen = 0
    · have hparts : (r.pl k).pg ≠ 0 ∧ r.live ch (k : Nat) (r.pl k).gen = 0 ∧ (r.kids (k : Nat) (r.pl k).gen).length = 0 := by
        unfold mergeE at he
        rw [P.sim.has, hq, hat] at he
        simp only [if_true] at he
        have e1 : (r.get ch (k : Nat) (r.pl k).gen).pg = (r.pl k).pg ∧ (r.get ch (k : Nat) (r.pl k).gen).live = r.live ch (k : Nat) (r.pl k).gen ∧ (r.get ch (k : Nat) (r.pl k).gen).ch = (r.kids (k : Nat) (r.pl k).gen).length := by unfold RTab.get; simp
        rw [e1.1, e1.2.1, e1.2.2] at he
        by_cases hp : (r.pl k).pg = 0
        · rw [if_pos hp] at he; simp at he
        · rw [if_neg hp] at he
          have hn := live_nn P.sim.held (k : Nat) (r.pl k).gen
          by_cases hb : 0 < r.live ch (k : Nat) (r.pl k).gen ∨ (0 : Int) < ((r.kids (k : Nat) (r.pl k).gen).length : Nat)
          · rw [if_pos hb] at he; simp at he
          · exact ⟨hp, by omega, by omega⟩
      obtain ⟨hp, hl0, hk0⟩ := hparts
      rcases P.sim.held.up k h1 with hu | ⟨_, hu⟩
      · exact absurd hu.2 hp
      obtain ⟨j, ej, hj, hj1, ejg⟩ := is_pl.1 hu
      have hno := no_kids hk0
      have hjk : j ≠ k := by
        rintro rfl
        have := hno j
        rw [kidQ_iff.2 ⟨h1, ej, ejg.symm⟩] at this; cases this
      have epi : (t.at_ (k : Nat) (r.pl k).gen).pi = (j : Nat) ∧ (t.at_ (k : Nat) (r.pl k).gen).pg = (r.pl j).gen ∧ (t.at_ (k : Nat) (r.pl k).gen).cpu = (r.pl k).cpu := by
        rw [hat]; unfold RTab.get; simp only [Int.toNat_natCast]; exact ⟨ej, ejg.symm, trivial⟩
      have hisj : r.is (j : Nat) (r.pl j).gen = true := is_pl.2 ⟨j, rfl, hj, hj1, rfl⟩
      have hks : k < t.spots.length := by
        obtain ⟨s, hs, _⟩ := has_iff.1 (by rw [P.sim.has]; exact hq : t.has (k : Nat) (r.pl k).gen = true)
        exact (List.getElem?_eq_some_iff.1 (live_nat.1 hs).1).1
      refine (Merge_ok P.dm P.sim.oks i0 i1 he (by rw [topG_val]; omega) ?_ ?_).mono ?_
      · rw [epi.1, epi.2.1, Int.toNat_natCast, drop_has hks, if_neg (by omega), P.sim.has]; exact hisj
      · rw [epi.1, epi.2.1, epi.2.2, P.sim.at_ hisj]
        show (r.pl k).cpu ≤ r.car (j : Nat) (r.pl j).gen
        rw [car_eq]
        have := sumN_ge (f := fun c => if kidQ (r.pl c) (j : Nat) (r.pl j).gen = true then (r.pl c).cpu else 0) hk (fun c hc => by have := (P.sim.held.nums c hc).2.2.1; split <;> omega)
        rw [if_pos (kidQ_iff.2 ⟨h1, ej, ejg.symm⟩)] at this
        exact this
      · rintro e w1 ⟨rfl, hT⟩
        refine ⟨_, rfl, _, hT, fun W hTW => ?_⟩
        refine (rmerge_any (P.ref_at hTW) P.n0 P.sim.held.fine P.sim.held.Chs hFl (by omega) (by omega)).mono ?_
        rintro e w2 ⟨rfl, hR⟩
        rw [hsame, he] at hR ⊢
        rw [if_pos rfl] at hR
        exact ⟨rfl, P.turn hTW hR (P.sim.off hM h1 hl0 hk0) (Grows.off hk)⟩
    · refine (Merge_no P.dm i0 i1 he).mono ?_
      rintro e w1 ⟨rfl, hc⟩
      refine ⟨_, rfl, t, DomTurns.refl P.dm hc, fun W hTW => ?_⟩
      refine (rmerge_any (P.ref_at hTW) P.n0 P.sim.held.fine P.sim.held.Chs hFl (by omega) (by omega)).mono ?_
      rintro e w2 ⟨rfl, hR⟩
      rw [hsame] at hR ⊢
      rw [if_neg he] at hR
      exact ⟨rfl, P.stay hM hTW hR (Grows.refl r)⟩
end
end Go.Proofs
end
section
namespace Go.Proofs
open Go.RowKit Go.Shelf
set_option linter.unusedVariables false
set_option linter.unusedSimpArgs false

/-! ### A game -/
structure Game (w : World) (G c : Nat) (S : List Nat) (h : Nat) (S2 : List Nat) (V : Value) (rs : List (Int × Int)) (M : Nat) (t : Tab Dm) (r : RTab) (ch : Nat → List (Int × Int)) : Prop where
  pair : Pair w c S h S2 M t r ch
  blk : Blk w G 42 #[ptr c, ptr h, V]
  row : Row w 34 2 V rs.length (refCells rs)
  told : ∀ x ∈ rs, ∃ k : Nat, x.1 = (k : Nat) ∧ k < r.L.length ∧ 0 ≤ x.2 ∧ x.2 ≤ (r.pl k).gen ∧ (x.2 = (r.pl k).gen → (r.pl k).is = true)
  one : 1 ≤ rs.length
  len : rs.length ≤ M
/-- The blocks of a game. -/
abbrev gBlocks (G : Nat) (V : Value) (S S2 : List Nat) : List Nat := G :: (foot V ++ (S ++ S2))
def GTurns (Q : RTab → (Nat → List (Int × Int)) → List (Int × Int) → Prop) (G c : Nat) (S : List Nat) (h : Nat) (S2 : List Nat) (V : Value) (M : Nat) (w w' : World) : Prop :=
  ∃ S' S2' V' rs' t' r' ch', Game w' G c S' h S2' V' rs' (M + 1) t' r' ch' ∧ (∀ k ∈ gBlocks G V' S' S2', k ∈ gBlocks G V S S2 ∨ w.heap.size ≤ k) ∧ Chg (gBlocks G V S S2) w w' ∧ Q r' ch' rs'
section
variable {w w1 w2 : World} {G c h M : Nat} {S S2 : List Nat} {V : Value} {rs : List (Int × Int)} {t : Tab Dm} {r : RTab} {ch : Nat → List (Int × Int)}
theorem Game.G_off (g : Game w G c S h S2 V rs M t r ch) : G ∉ c :: S ∧ G ∉ S2 ∧ G ∉ foot V := by
  refine ⟨g.pair.dm.ne_ty g.blk (by decide) (by decide) (by decide) (by decide), g.pair.rf.not_box g.blk (by decide) (by decide) (by decide), fun hm => ?_⟩
  rcases g.row.2 with ⟨e, _⟩ | ⟨b, cap, cur, e, hb, _⟩
  · rw [e] at hm; cases hm
  · rw [e] at hm; simp [foot_some] at hm; subst hm
    have := g.blk
    unfold Blk at this hb
    rw [hb] at this; cases this
theorem Game.V_off (g : Game w G c S h S2 V rs M t r ch) : ∀ k ∈ foot V, k ∉ S ∧ k ∉ S2 := fun k hk => by
  rcases g.row.2 with ⟨e, _⟩ | ⟨b, cap, cur, e, hb, _⟩
  · rw [e] at hk; cases hk
  · rw [e] at hk; simp [foot_some] at hk; subst hk
    have h1 := g.pair.dm.ne_ty hb (by decide) (by decide) (by decide) (by decide)
    exact ⟨fun x => h1 (List.mem_cons_of_mem _ x), g.pair.rf.not_box hb (by decide) (by decide) (by decide)⟩
theorem Game.quiet (g : Game w G c S h S2 V rs M t r ch) (hc : Chg [] w w1) : Game w1 G c S h S2 V rs M t r ch :=
  { g with pair := g.pair.quiet hc, blk := g.blk.chg hc (by simp), row := g.row.chg hc (fun k _ => by simp) }
theorem Game.lt (g : Game w G c S h S2 V rs M t r ch) : ∀ k ∈ gBlocks G V S S2, k < w.heap.size := fun k hk => by
  rcases List.mem_cons.1 hk with rfl | hk
  · exact g.blk.lt
  · rcases List.mem_append.1 hk with hk | hk
    · exact g.row.lt k hk
    · rcases List.mem_append.1 hk with hk | hk
      · exact g.pair.dm.lt k (List.mem_cons_of_mem _ hk)
      · exact g.pair.rf.lt k hk
theorem Game.told_of (g : Game w G c S h S2 V rs M t r ch) {r' : RTab} (hg : Grows r r') : ∀ x ∈ rs, ∃ k : Nat, x.1 = (k : Nat) ∧ k < r'.L.length ∧ 0 ≤ x.2 ∧ x.2 ≤ (r'.pl k).gen ∧ (x.2 = (r'.pl k).gen → (r'.pl k).is = true) := fun x hx => by
  obtain ⟨k, h1, h2, h3, h4, h5⟩ := g.told x hx
  have hk := hg.gen k
  exact ⟨k, h1, by rw [hg.len]; exact h2, h3, by omega, fun e => hg.is k (by omega) (h5 (by omega))⟩
theorem chg_more {S S' : List Nat} {a b : World} (h : Chg S a b) (hs : ∀ k ∈ S, k ∈ S') : Chg S' a b := h.mono (fun k hk => .inl (hs k hk))
/-- A turn of the pair is one of the game. -/
theorem Game.turn (g : Game w G c S h S2 V rs M t r ch) {Q : PQ} (hp : PTurns Q c S h S2 M w w1) (hQ : ∀ r' ch', Q r' ch' → Grows r r') : GTurns (fun r' ch' rs' => Grows r r' ∧ Q r' ch' ∧ rs' = rs) G c S h S2 V M w w1 := by
  obtain ⟨S', S2', t', r', ch', P, h1, h2, hc, hq⟩ := hp
  obtain ⟨a1, a2, a3⟩ := g.G_off
  have a4 := g.V_off
  refine ⟨S', S2', V, rs, t', r', ch', ⟨P, g.blk.chg hc (fun hm => ?_), g.row.chg hc (fun k hk hm => ?_), g.told_of (hQ _ _ hq), g.one, Nat.le_succ_of_le g.len⟩, fun k hk => ?_, chg_more hc (fun k hk => List.mem_cons_of_mem _ (List.mem_append_right _ hk)), hQ _ _ hq, hq, rfl⟩
  · rcases List.mem_append.1 hm with hm | hm
    · exact a1 (List.mem_cons_of_mem _ hm)
    · exact a2 hm
  · rcases List.mem_append.1 hm with hm | hm
    · exact (a4 k hk).1 hm
    · exact (a4 k hk).2 hm
  · rcases List.mem_cons.1 hk with rfl | hk
    · exact .inl List.mem_cons_self
    · rcases List.mem_append.1 hk with hk | hk
      · exact .inl (List.mem_cons_of_mem _ (List.mem_append_left _ hk))
      · rcases List.mem_append.1 hk with hk | hk
        · exact (h1 k hk).imp (fun x => List.mem_cons_of_mem _ (List.mem_append_right _ (List.mem_append_left _ x))) id
        · exact (h2 k hk).imp (fun x => List.mem_cons_of_mem _ (List.mem_append_right _ (List.mem_append_right _ x))) id
end
end Go.Proofs
end
section
namespace Go.Proofs
open Go.RowKit Go.Shelf
set_option linter.unusedVariables false
set_option linter.unusedSimpArgs false
structure ActC where
  kind : Int
  ri : Int
  rq : Int
  at_ : Int
  gs : Int
  n : Int
  per : Int
abbrev ActC.cells (a : ActC) : List Value := [.int .i64 a.kind, .int .i64 a.ri, .int .u64 a.rq, .int .i64 a.at_, .int .i64 a.gs, .int .u64 a.n, .int .u64 a.per]
structure ActC.Fits (a : ActC) : Prop where
  r0 : -9223372036854775808 ≤ a.ri
  r1 : a.ri ≤ 9223372036854775807
  t0 : -9223372036854775808 ≤ a.at_
  t1 : a.at_ ≤ 9223372036854775807
  n0 : 0 ≤ a.n
  n1 : a.n < 18446744073709551616
  p0 : 0 ≤ a.per
/-- What an act leaves: the answer that both are alike, and a game again. -/
def DoPost (G c : Nat) (S : List Nat) (h : Nat) (S2 : List Nat) (V : Value) (M : Nat) (r : RTab) (rs : List (Int × Int)) (w : World) (e : Ending) (w' : World) : Prop :=
  e = .returned (.bool true) ∧ GTurns (fun r' ch' rs' => Grows r r' ∧ rs <+: rs') G c S h S2 V M w w'
theorem GTurns.weak {G c h M : Nat} {S S2 : List Nat} {V : Value} {rs : List (Int × Int)} {r : RTab} {w w' : World} {Q : PQ} (hg : GTurns (fun r' ch' rs' => Grows r r' ∧ Q r' ch' ∧ rs' = rs) G c S h S2 V M w w') : GTurns (fun r' ch' rs' => Grows r r' ∧ rs <+: rs') G c S h S2 V M w w' := by
  obtain ⟨S', S2', V', rs', t', r', ch', h1, h2, h3, h4, h5, rfl⟩ := hg
  exact ⟨S', S2', V', rs', t', r', ch', h1, h2, h3, h4, List.prefix_refl _⟩
theorem GTurns.earlier {Q : RTab → (Nat → List (Int × Int)) → List (Int × Int) → Prop} {G c h M : Nat} {S S2 : List Nat} {V : Value} {a b d : World} (hg : GTurns Q G c S h S2 V M b d) (hc : Chg [] a b) : GTurns Q G c S h S2 V M a d := by
  obtain ⟨S', S2', V', rs', t', r', ch', h1, h2, h3, h4⟩ := hg
  exact ⟨S', S2', V', rs', t', r', ch', h1, fun k hk => (h2 k hk).imp id (fun x => Nat.le_trans hc.size x), (Chg.any hc).trans h3 (fun k hk => .inl hk), h4⟩
section
variable {w : World} {G c h M : Nat} {S S2 : List Nat} {V : Value} {rs : List (Int × Int)} {t : Tab Dm} {r : RTab} {ch : Nat → List (Int × Int)}

set_option maxRecDepth 100000 in
set_option maxHeartbeats 6400000 in
theorem do2 (g : Game w G c S h S2 V rs M t r ch) (hM : M + 1 ≤ 1000) {ri rq at_ gs n per : Int} (hF : ActC.Fits ⟨2, ri, rq, at_, gs, n, per⟩) :
    Calls Try.prog 13 #[ptr G, .agg #[.int .i64 2, .int .i64 ri, .int .u64 rq, .int .i64 at_, .int .i64 gs, .int .u64 n, .int .u64 per]] w (DoPost G c S h S2 V M r rs w) := by
  unfold DoPost
  by_cases hat : at_ < 1
  · have hat' : decide (1 ≤ at_) = false := by simp; omega
    have hc0 : Chg [] w (((w.alloc (.cells #[.int .i64 2, .int .i64 ri, .int .u64 rq, .int .i64 at_, .int .i64 gs, .int .u64 n, .int .u64 per] 36)).alloc (obRef ri rq)).drew) := (((Chg.refl [] w).alloc _).alloc _).drew
    have hbx := ((Blk.new w 36 #[.int .i64 2, .int .i64 ri, .int .u64 rq, .int .i64 at_, .int .i64 gs, .int .u64 n, .int .u64 per]).alloc (obRef ri rq)).drew
    have hrx : Blk (((w.alloc (.cells #[.int .i64 2, .int .i64 ri, .int .u64 rq, .int .i64 at_, .int .i64 gs, .int .u64 n, .int .u64 per] 36)).alloc (obRef ri rq)).drew) (w.heap.size + 1) 34 #[.int .i64 ri, .int .u64 rq] := (Blk.at' _ 34 _ (by simp)).drew
    have g1 := g.quiet hc0
    have HQ := Lib.hid (pair_merge g1.pair hM hF.r0 hF.r1 (q := rq))
    have v0 := g.blk.cell 0
    have v1 := g.blk.cell 1
    have v2 := g.blk.cell 2
    have hGl := g.blk.lt
    clear hat
    have HE := Lib.hid (fun (w2 : World) (hp : PTurns (fun r' _ => Grows r r') c S h S2 M (((w.alloc (.cells #[.int .i64 2, .int .i64 ri, .int .u64 rq, .int .i64 at_, .int .i64 gs, .int .u64 n, .int .u64 per] 36)).alloc (obRef ri rq)).drew) w2) => GTurns.weak ((g1.turn hp (fun _ _ x => x)).earlier hc0))
    have HG := Lib.hid g1.blk
    have HR := Lib.hid hrx
    have HA := Lib.hid hbx
    have hs1 : G ∉ S ∧ w.heap.size + 1 ∉ S ∧ w.heap.size ∉ S := ⟨fun x => g.G_off.1 (List.mem_cons_of_mem _ x), fun x => by have := g.pair.dm.lt _ (List.mem_cons_of_mem _ x); omega, fun x => by have := g.pair.dm.lt _ (List.mem_cons_of_mem _ x); omega⟩
    have hs2 : G ∉ S2 ∧ w.heap.size + 1 ∉ S2 ∧ w.heap.size ∉ S2 := ⟨g.G_off.2.1, fun x => by have := g.pair.rf.lt _ x; omega, fun x => by have := g.pair.rf.lt _ x; omega⟩
    have HS1 := Lib.hid hs1
    have HS2 := Lib.hid hs2
    clear hc0 hbx hrx g1 g hs1 hs2 hF hM
    go_enter Try.func13, Try.ntmps13
    go_wp2
    go_region_held3 (fun w' => w'.cell? ⟨G, 0, none⟩ = some (ptr c) ∧ w'.cell? ⟨G, 1, none⟩ = some (ptr h) ∧ w'.cell? ⟨w.heap.size + 1, 0, none⟩ = some (.int .i64 ri) ∧ w'.cell? ⟨w.heap.size + 1, 1, none⟩ = some (.int .u64 rq) ∧ w'.cell? ⟨w.heap.size, 5, none⟩ = some (.int .u64 n))
      (first | go_keep)
      (first
        | (go_at_call 18; refine HQ.out.mono ?_; rintro e w1 ⟨E, rfl, hH⟩; have HG5 := Lib.hid (HG.out.chg hH.chg HS1.out.1); have HR5 := Lib.hid (HR.out.chg hH.chg HS1.out.2.1); have HA5 := Lib.hid (HA.out.chg hH.chg HS1.out.2.2); have k0 := HG5.out.cell 0; have k1 := HG5.out.cell 1; have k2 := HR5.out.cell 0; have k3 := HR5.out.cell 1; have k4 := HA5.out.cell 5; have HH := Lib.hid hH; have hEE : (E == E) = true := beq_self_eq_true E)
        | (go_at_call 39; refine (HH.out.call (Chg.refl [] _)).mono ?_; rintro e w2 ⟨rfl, hU, hc2⟩; have HG6 := Lib.hid (HG5.out.chg hc2 HS2.out.1); have HR6 := Lib.hid (HR5.out.chg hc2 HS2.out.2.1); have HA6 := Lib.hid (HA5.out.chg hc2 HS2.out.2.2); have j0 := HG6.out.cell 0; have j1 := HG6.out.cell 1; have j2 := HR6.out.cell 0; have j3 := HR6.out.cell 1; have j4 := HA6.out.cell 5; have HU := Lib.hid hU))
    all_goals
      go_wp2
      go_ret
      exact ⟨rfl, HE.out _ HU.out⟩
  · have hat' : decide (1 ≤ at_) = true := by simp; omega
    have v0 := g.blk.cell 0
    have v1 := g.blk.cell 1
    have v2 := g.blk.cell 2
    have hGl := g.blk.lt
    have hone := g.one
    have hlen := g.len
    have h0 := hF.t0
    have h1 := hF.t1
    obtain ⟨b, cp, hVe, hVb⟩ : ∃ b cp, V = .slice (some ⟨b, 0, none⟩) rs.length cp ∧ ∃ cur, Blk w b 34 cur ∧ cur.toList.take (rs.length * 2) = refCells rs := by
      rcases g.row.2 with ⟨_, e0⟩ | ⟨b, cp, cur, e, hb, _, _, _, ht⟩
      · omega
      · exact ⟨b, cp, e, cur, hb, ht⟩
    rw [hVe] at v2
    obtain ⟨j, hj, hj1⟩ : ∃ j : Nat, (rs.length : Int) - 1 - (at_ - 1) % (rs.length : Int) = (j : Nat) ∧ j < rs.length := by
      have a0 := Int.emod_nonneg (at_ - 1) (b := (rs.length : Int)) (by omega)
      have a1 := Int.emod_lt_of_pos (at_ - 1) (b := (rs.length : Int)) (by omega)
      exact ⟨((rs.length : Int) - 1 - (at_ - 1) % (rs.length : Int)).toNat, by omega, by omega⟩
    have hw9 : wrap64 ((rs.length : Int) - 1 - (at_ - 1) % (rs.length : Int)) = (j : Nat) := by rw [hj]; unfold wrap64; omega
    have hj2 : ((j : Nat) : Int) < (rs.length : Int) := by omega
    obtain ⟨cur, hBb, htk⟩ := hVb
    obtain ⟨y, hy⟩ : ∃ y, rs[j]? = some y := ⟨_, List.getElem?_eq_getElem hj1⟩
    have hbl := hBb.lt
    have hcc := refCells_at hy
    have u0 : w.cell? ⟨b, j * 2, none⟩ = some (.int .i64 y.1) := by
      rw [hBb.cell, ← hcc.1, ← htk, List.getElem?_take, if_pos (by omega)]; simp
    have u1 : w.cell? ⟨b, j * 2 + 1, none⟩ = some (.int .u64 y.2) := by
      rw [hBb.cell, ← hcc.2, ← htk, List.getElem?_take, if_pos (by omega)]; simp
    obtain ⟨ky, hyk, hyl, _⟩ := g.told y (List.mem_of_getElem? hy)
    have hN := g.pair.sim.held.n1
    have hc0 : Chg [] w ((((w.alloc (.cells #[.int .i64 2, .int .i64 ri, .int .u64 rq, .int .i64 at_, .int .i64 gs, .int .u64 n, .int .u64 per] 36)).alloc (obRef y.1 y.2)).drew).drew) := ((((Chg.refl [] w).alloc _).alloc _).drew).drew
    have hbx := (((Blk.new w 36 #[.int .i64 2, .int .i64 ri, .int .u64 rq, .int .i64 at_, .int .i64 gs, .int .u64 n, .int .u64 per]).alloc (obRef y.1 y.2)).drew).drew
    have hrx : Blk ((((w.alloc (.cells #[.int .i64 2, .int .i64 ri, .int .u64 rq, .int .i64 at_, .int .i64 gs, .int .u64 n, .int .u64 per] 36)).alloc (obRef y.1 y.2)).drew).drew) (w.heap.size + 1) 34 #[.int .i64 y.1, .int .u64 y.2] := ((Blk.at' _ 34 _ (by simp)).drew).drew
    have g1 := g.quiet hc0
    have HQ := Lib.hid (pair_merge g1.pair hM (i := y.1) (q := y.2) (by omega) (by omega))
    have HE := Lib.hid (fun (w2 : World) (hp : PTurns (fun r' _ => Grows r r') c S h S2 M ((((w.alloc (.cells #[.int .i64 2, .int .i64 ri, .int .u64 rq, .int .i64 at_, .int .i64 gs, .int .u64 n, .int .u64 per] 36)).alloc (obRef y.1 y.2)).drew).drew) w2) => GTurns.weak ((g1.turn hp (fun _ _ x => x)).earlier hc0))
    have HG := Lib.hid g1.blk
    have HR := Lib.hid hrx
    have HA := Lib.hid hbx
    have hs1 : G ∉ S ∧ w.heap.size + 1 ∉ S ∧ w.heap.size ∉ S := ⟨fun x => g.G_off.1 (List.mem_cons_of_mem _ x), fun x => by have := g.pair.dm.lt _ (List.mem_cons_of_mem _ x); omega, fun x => by have := g.pair.dm.lt _ (List.mem_cons_of_mem _ x); omega⟩
    have hs2 : G ∉ S2 ∧ w.heap.size + 1 ∉ S2 ∧ w.heap.size ∉ S2 := ⟨g.G_off.2.1, fun x => by have := g.pair.rf.lt _ x; omega, fun x => by have := g.pair.rf.lt _ x; omega⟩
    have HS1 := Lib.hid hs1
    have HS2 := Lib.hid hs2
    clear hc0 hbx hrx g1 g hs1 hs2 hF hj hBb htk hy hcc hyk hN
    go_enter Try.func13, Try.ntmps13
    go_wp2
    go_region
    go_wp2
    go_region_held3 (fun w' => w'.cell? ⟨G, 0, none⟩ = some (ptr c) ∧ w'.cell? ⟨G, 1, none⟩ = some (ptr h) ∧ w'.cell? ⟨w.heap.size + 1, 0, none⟩ = some (.int .i64 y.1) ∧ w'.cell? ⟨w.heap.size + 1, 1, none⟩ = some (.int .u64 y.2) ∧ w'.cell? ⟨w.heap.size, 5, none⟩ = some (.int .u64 n))
      (first | go_keep)
      (first
        | (go_at_call 18; refine HQ.out.mono ?_; rintro e w1 ⟨E, rfl, hH⟩; have HG5 := Lib.hid (HG.out.chg hH.chg HS1.out.1); have HR5 := Lib.hid (HR.out.chg hH.chg HS1.out.2.1); have HA5 := Lib.hid (HA.out.chg hH.chg HS1.out.2.2); have k0 := HG5.out.cell 0; have k1 := HG5.out.cell 1; have k2 := HR5.out.cell 0; have k3 := HR5.out.cell 1; have k4 := HA5.out.cell 5; have HH := Lib.hid hH; have hEE : (E == E) = true := beq_self_eq_true E)
        | (go_at_call 39; refine (HH.out.call (Chg.refl [] _)).mono ?_; rintro e w2 ⟨rfl, hU, hc2⟩; have HG6 := Lib.hid (HG5.out.chg hc2 HS2.out.1); have HR6 := Lib.hid (HR5.out.chg hc2 HS2.out.2.1); have HA6 := Lib.hid (HA5.out.chg hc2 HS2.out.2.2); have j0 := HG6.out.cell 0; have j1 := HG6.out.cell 1; have j2 := HR6.out.cell 0; have j3 := HR6.out.cell 1; have j4 := HA6.out.cell 5; have HU := Lib.hid hU))
    all_goals
      go_wp2
      go_ret
      exact ⟨rfl, HE.out _ HU.out⟩

set_option maxRecDepth 100000 in
set_option maxHeartbeats 6400000 in
theorem do3 (g : Game w G c S h S2 V rs M t r ch) (hM : M + 1 ≤ 1000) {ri rq at_ gs n per : Int} (hF : ActC.Fits ⟨3, ri, rq, at_, gs, n, per⟩) :
    Calls Try.prog 13 #[ptr G, .agg #[.int .i64 3, .int .i64 ri, .int .u64 rq, .int .i64 at_, .int .i64 gs, .int .u64 n, .int .u64 per]] w (DoPost G c S h S2 V M r rs w) := by
  unfold DoPost
  by_cases hat : at_ < 1
  · have hat' : decide (1 ≤ at_) = false := by simp; omega
    have hc0 : Chg [] w (((w.alloc (.cells #[.int .i64 3, .int .i64 ri, .int .u64 rq, .int .i64 at_, .int .i64 gs, .int .u64 n, .int .u64 per] 36)).alloc (obRef ri rq)).drew) := (((Chg.refl [] w).alloc _).alloc _).drew
    have hbx := ((Blk.new w 36 #[.int .i64 3, .int .i64 ri, .int .u64 rq, .int .i64 at_, .int .i64 gs, .int .u64 n, .int .u64 per]).alloc (obRef ri rq)).drew
    have hrx : Blk (((w.alloc (.cells #[.int .i64 3, .int .i64 ri, .int .u64 rq, .int .i64 at_, .int .i64 gs, .int .u64 n, .int .u64 per] 36)).alloc (obRef ri rq)).drew) (w.heap.size + 1) 34 #[.int .i64 ri, .int .u64 rq] := (Blk.at' _ 34 _ (by simp)).drew
    have g1 := g.quiet hc0
    have HQ := Lib.hid (pair_join g1.pair hM hF.r0 hF.r1 (q := rq))
    have v0 := g.blk.cell 0
    have v1 := g.blk.cell 1
    have v2 := g.blk.cell 2
    have hGl := g.blk.lt
    clear hat
    have HE := Lib.hid (fun (w2 : World) (hp : PTurns (fun r' _ => Grows r r') c S h S2 M (((w.alloc (.cells #[.int .i64 3, .int .i64 ri, .int .u64 rq, .int .i64 at_, .int .i64 gs, .int .u64 n, .int .u64 per] 36)).alloc (obRef ri rq)).drew) w2) => GTurns.weak ((g1.turn hp (fun _ _ x => x)).earlier hc0))
    have HG := Lib.hid g1.blk
    have HR := Lib.hid hrx
    have HA := Lib.hid hbx
    have hs1 : G ∉ S ∧ w.heap.size + 1 ∉ S ∧ w.heap.size ∉ S := ⟨fun x => g.G_off.1 (List.mem_cons_of_mem _ x), fun x => by have := g.pair.dm.lt _ (List.mem_cons_of_mem _ x); omega, fun x => by have := g.pair.dm.lt _ (List.mem_cons_of_mem _ x); omega⟩
    have hs2 : G ∉ S2 ∧ w.heap.size + 1 ∉ S2 ∧ w.heap.size ∉ S2 := ⟨g.G_off.2.1, fun x => by have := g.pair.rf.lt _ x; omega, fun x => by have := g.pair.rf.lt _ x; omega⟩
    have HS1 := Lib.hid hs1
    have HS2 := Lib.hid hs2
    clear hc0 hbx hrx g1 g hs1 hs2 hF hM
    go_enter Try.func13, Try.ntmps13
    go_wp2
    go_region_held3 (fun w' => w'.cell? ⟨G, 0, none⟩ = some (ptr c) ∧ w'.cell? ⟨G, 1, none⟩ = some (ptr h) ∧ w'.cell? ⟨w.heap.size + 1, 0, none⟩ = some (.int .i64 ri) ∧ w'.cell? ⟨w.heap.size + 1, 1, none⟩ = some (.int .u64 rq) ∧ w'.cell? ⟨w.heap.size, 5, none⟩ = some (.int .u64 n))
      (first | go_keep)
      (first
        | (go_at_call 19; refine HQ.out.mono ?_; rintro e w1 ⟨E, rfl, hH⟩; have HG5 := Lib.hid (HG.out.chg hH.chg HS1.out.1); have HR5 := Lib.hid (HR.out.chg hH.chg HS1.out.2.1); have HA5 := Lib.hid (HA.out.chg hH.chg HS1.out.2.2); have k0 := HG5.out.cell 0; have k1 := HG5.out.cell 1; have k2 := HR5.out.cell 0; have k3 := HR5.out.cell 1; have k4 := HA5.out.cell 5; have HH := Lib.hid hH; have hEE : (E == E) = true := beq_self_eq_true E)
        | (go_at_call 40; refine (HH.out.call (Chg.refl [] _)).mono ?_; rintro e w2 ⟨rfl, hU, hc2⟩; have HG6 := Lib.hid (HG5.out.chg hc2 HS2.out.1); have HR6 := Lib.hid (HR5.out.chg hc2 HS2.out.2.1); have HA6 := Lib.hid (HA5.out.chg hc2 HS2.out.2.2); have j0 := HG6.out.cell 0; have j1 := HG6.out.cell 1; have j2 := HR6.out.cell 0; have j3 := HR6.out.cell 1; have j4 := HA6.out.cell 5; have HU := Lib.hid hU))
    all_goals
      go_wp2
      go_ret
      exact ⟨rfl, HE.out _ HU.out⟩
  · have hat' : decide (1 ≤ at_) = true := by simp; omega
    have v0 := g.blk.cell 0
    have v1 := g.blk.cell 1
    have v2 := g.blk.cell 2
    have hGl := g.blk.lt
    have hone := g.one
    have hlen := g.len
    have h0 := hF.t0
    have h1 := hF.t1
    obtain ⟨b, cp, hVe, hVb⟩ : ∃ b cp, V = .slice (some ⟨b, 0, none⟩) rs.length cp ∧ ∃ cur, Blk w b 34 cur ∧ cur.toList.take (rs.length * 2) = refCells rs := by
      rcases g.row.2 with ⟨_, e0⟩ | ⟨b, cp, cur, e, hb, _, _, _, ht⟩
      · omega
      · exact ⟨b, cp, e, cur, hb, ht⟩
    rw [hVe] at v2
    obtain ⟨j, hj, hj1⟩ : ∃ j : Nat, (rs.length : Int) - 1 - (at_ - 1) % (rs.length : Int) = (j : Nat) ∧ j < rs.length := by
      have a0 := Int.emod_nonneg (at_ - 1) (b := (rs.length : Int)) (by omega)
      have a1 := Int.emod_lt_of_pos (at_ - 1) (b := (rs.length : Int)) (by omega)
      exact ⟨((rs.length : Int) - 1 - (at_ - 1) % (rs.length : Int)).toNat, by omega, by omega⟩
    have hw9 : wrap64 ((rs.length : Int) - 1 - (at_ - 1) % (rs.length : Int)) = (j : Nat) := by rw [hj]; unfold wrap64; omega
    have hj2 : ((j : Nat) : Int) < (rs.length : Int) := by omega
    obtain ⟨cur, hBb, htk⟩ := hVb
    obtain ⟨y, hy⟩ : ∃ y, rs[j]? = some y := ⟨_, List.getElem?_eq_getElem hj1⟩
    have hbl := hBb.lt
    have hcc := refCells_at hy
    have u0 : w.cell? ⟨b, j * 2, none⟩ = some (.int .i64 y.1) := by
      rw [hBb.cell, ← hcc.1, ← htk, List.getElem?_take, if_pos (by omega)]; simp
    have u1 : w.cell? ⟨b, j * 2 + 1, none⟩ = some (.int .u64 y.2) := by
      rw [hBb.cell, ← hcc.2, ← htk, List.getElem?_take, if_pos (by omega)]; simp
    obtain ⟨ky, hyk, hyl, _⟩ := g.told y (List.mem_of_getElem? hy)
    have hN := g.pair.sim.held.n1
    have hc0 : Chg [] w ((((w.alloc (.cells #[.int .i64 3, .int .i64 ri, .int .u64 rq, .int .i64 at_, .int .i64 gs, .int .u64 n, .int .u64 per] 36)).alloc (obRef y.1 y.2)).drew).drew) := ((((Chg.refl [] w).alloc _).alloc _).drew).drew
    have hbx := (((Blk.new w 36 #[.int .i64 3, .int .i64 ri, .int .u64 rq, .int .i64 at_, .int .i64 gs, .int .u64 n, .int .u64 per]).alloc (obRef y.1 y.2)).drew).drew
    have hrx : Blk ((((w.alloc (.cells #[.int .i64 3, .int .i64 ri, .int .u64 rq, .int .i64 at_, .int .i64 gs, .int .u64 n, .int .u64 per] 36)).alloc (obRef y.1 y.2)).drew).drew) (w.heap.size + 1) 34 #[.int .i64 y.1, .int .u64 y.2] := ((Blk.at' _ 34 _ (by simp)).drew).drew
    have g1 := g.quiet hc0
    have HQ := Lib.hid (pair_join g1.pair hM (i := y.1) (q := y.2) (by omega) (by omega))
    have HE := Lib.hid (fun (w2 : World) (hp : PTurns (fun r' _ => Grows r r') c S h S2 M ((((w.alloc (.cells #[.int .i64 3, .int .i64 ri, .int .u64 rq, .int .i64 at_, .int .i64 gs, .int .u64 n, .int .u64 per] 36)).alloc (obRef y.1 y.2)).drew).drew) w2) => GTurns.weak ((g1.turn hp (fun _ _ x => x)).earlier hc0))
    have HG := Lib.hid g1.blk
    have HR := Lib.hid hrx
    have HA := Lib.hid hbx
    have hs1 : G ∉ S ∧ w.heap.size + 1 ∉ S ∧ w.heap.size ∉ S := ⟨fun x => g.G_off.1 (List.mem_cons_of_mem _ x), fun x => by have := g.pair.dm.lt _ (List.mem_cons_of_mem _ x); omega, fun x => by have := g.pair.dm.lt _ (List.mem_cons_of_mem _ x); omega⟩
    have hs2 : G ∉ S2 ∧ w.heap.size + 1 ∉ S2 ∧ w.heap.size ∉ S2 := ⟨g.G_off.2.1, fun x => by have := g.pair.rf.lt _ x; omega, fun x => by have := g.pair.rf.lt _ x; omega⟩
    have HS1 := Lib.hid hs1
    have HS2 := Lib.hid hs2
    clear hc0 hbx hrx g1 g hs1 hs2 hF hj hBb htk hy hcc hyk hN
    go_enter Try.func13, Try.ntmps13
    go_wp2
    go_region
    go_wp2
    go_region_held3 (fun w' => w'.cell? ⟨G, 0, none⟩ = some (ptr c) ∧ w'.cell? ⟨G, 1, none⟩ = some (ptr h) ∧ w'.cell? ⟨w.heap.size + 1, 0, none⟩ = some (.int .i64 y.1) ∧ w'.cell? ⟨w.heap.size + 1, 1, none⟩ = some (.int .u64 y.2) ∧ w'.cell? ⟨w.heap.size, 5, none⟩ = some (.int .u64 n))
      (first | go_keep)
      (first
        | (go_at_call 19; refine HQ.out.mono ?_; rintro e w1 ⟨E, rfl, hH⟩; have HG5 := Lib.hid (HG.out.chg hH.chg HS1.out.1); have HR5 := Lib.hid (HR.out.chg hH.chg HS1.out.2.1); have HA5 := Lib.hid (HA.out.chg hH.chg HS1.out.2.2); have k0 := HG5.out.cell 0; have k1 := HG5.out.cell 1; have k2 := HR5.out.cell 0; have k3 := HR5.out.cell 1; have k4 := HA5.out.cell 5; have HH := Lib.hid hH; have hEE : (E == E) = true := beq_self_eq_true E)
        | (go_at_call 40; refine (HH.out.call (Chg.refl [] _)).mono ?_; rintro e w2 ⟨rfl, hU, hc2⟩; have HG6 := Lib.hid (HG5.out.chg hc2 HS2.out.1); have HR6 := Lib.hid (HR5.out.chg hc2 HS2.out.2.1); have HA6 := Lib.hid (HA5.out.chg hc2 HS2.out.2.2); have j0 := HG6.out.cell 0; have j1 := HG6.out.cell 1; have j2 := HR6.out.cell 0; have j3 := HR6.out.cell 1; have j4 := HA6.out.cell 5; have HU := Lib.hid hU))
    all_goals
      go_wp2
      go_ret
      exact ⟨rfl, HE.out _ HU.out⟩

set_option maxRecDepth 100000 in
set_option maxHeartbeats 6400000 in
theorem do4 (g : Game w G c S h S2 V rs M t r ch) (hM : M + 1 ≤ 1000) {ri rq at_ gs n per : Int} (hF : ActC.Fits ⟨4, ri, rq, at_, gs, n, per⟩) :
    Calls Try.prog 13 #[ptr G, .agg #[.int .i64 4, .int .i64 ri, .int .u64 rq, .int .i64 at_, .int .i64 gs, .int .u64 n, .int .u64 per]] w (DoPost G c S h S2 V M r rs w) := by
  unfold DoPost
  by_cases hat : at_ < 1
  · have hat' : decide (1 ≤ at_) = false := by simp; omega
    have hc0 : Chg [] w (((w.alloc (.cells #[.int .i64 4, .int .i64 ri, .int .u64 rq, .int .i64 at_, .int .i64 gs, .int .u64 n, .int .u64 per] 36)).alloc (obRef ri rq)).drew) := (((Chg.refl [] w).alloc _).alloc _).drew
    have hbx := ((Blk.new w 36 #[.int .i64 4, .int .i64 ri, .int .u64 rq, .int .i64 at_, .int .i64 gs, .int .u64 n, .int .u64 per]).alloc (obRef ri rq)).drew
    have hrx : Blk (((w.alloc (.cells #[.int .i64 4, .int .i64 ri, .int .u64 rq, .int .i64 at_, .int .i64 gs, .int .u64 n, .int .u64 per] 36)).alloc (obRef ri rq)).drew) (w.heap.size + 1) 34 #[.int .i64 ri, .int .u64 rq] := (Blk.at' _ 34 _ (by simp)).drew
    have g1 := g.quiet hc0
    have HQ := Lib.hid (pair_leave g1.pair hM hF.r0 hF.r1 (q := rq))
    have v0 := g.blk.cell 0
    have v1 := g.blk.cell 1
    have v2 := g.blk.cell 2
    have hGl := g.blk.lt
    clear hat
    have HE := Lib.hid (fun (w2 : World) (hp : PTurns (fun r' _ => Grows r r') c S h S2 M (((w.alloc (.cells #[.int .i64 4, .int .i64 ri, .int .u64 rq, .int .i64 at_, .int .i64 gs, .int .u64 n, .int .u64 per] 36)).alloc (obRef ri rq)).drew) w2) => GTurns.weak ((g1.turn hp (fun _ _ x => x)).earlier hc0))
    have HG := Lib.hid g1.blk
    have HR := Lib.hid hrx
    have HA := Lib.hid hbx
    have hs1 : G ∉ S ∧ w.heap.size + 1 ∉ S ∧ w.heap.size ∉ S := ⟨fun x => g.G_off.1 (List.mem_cons_of_mem _ x), fun x => by have := g.pair.dm.lt _ (List.mem_cons_of_mem _ x); omega, fun x => by have := g.pair.dm.lt _ (List.mem_cons_of_mem _ x); omega⟩
    have hs2 : G ∉ S2 ∧ w.heap.size + 1 ∉ S2 ∧ w.heap.size ∉ S2 := ⟨g.G_off.2.1, fun x => by have := g.pair.rf.lt _ x; omega, fun x => by have := g.pair.rf.lt _ x; omega⟩
    have HS1 := Lib.hid hs1
    have HS2 := Lib.hid hs2
    clear hc0 hbx hrx g1 g hs1 hs2 hF hM
    go_enter Try.func13, Try.ntmps13
    go_wp2
    go_region_held3 (fun w' => w'.cell? ⟨G, 0, none⟩ = some (ptr c) ∧ w'.cell? ⟨G, 1, none⟩ = some (ptr h) ∧ w'.cell? ⟨w.heap.size + 1, 0, none⟩ = some (.int .i64 ri) ∧ w'.cell? ⟨w.heap.size + 1, 1, none⟩ = some (.int .u64 rq) ∧ w'.cell? ⟨w.heap.size, 5, none⟩ = some (.int .u64 n))
      (first | go_keep)
      (first
        | (go_at_call 20; refine HQ.out.mono ?_; rintro e w1 ⟨E, rfl, hH⟩; have HG5 := Lib.hid (HG.out.chg hH.chg HS1.out.1); have HR5 := Lib.hid (HR.out.chg hH.chg HS1.out.2.1); have HA5 := Lib.hid (HA.out.chg hH.chg HS1.out.2.2); have k0 := HG5.out.cell 0; have k1 := HG5.out.cell 1; have k2 := HR5.out.cell 0; have k3 := HR5.out.cell 1; have k4 := HA5.out.cell 5; have HH := Lib.hid hH; have hEE : (E == E) = true := beq_self_eq_true E)
        | (go_at_call 41; refine (HH.out.call (Chg.refl [] _)).mono ?_; rintro e w2 ⟨rfl, hU, hc2⟩; have HG6 := Lib.hid (HG5.out.chg hc2 HS2.out.1); have HR6 := Lib.hid (HR5.out.chg hc2 HS2.out.2.1); have HA6 := Lib.hid (HA5.out.chg hc2 HS2.out.2.2); have j0 := HG6.out.cell 0; have j1 := HG6.out.cell 1; have j2 := HR6.out.cell 0; have j3 := HR6.out.cell 1; have j4 := HA6.out.cell 5; have HU := Lib.hid hU))
    all_goals
      go_wp2
      go_ret
      exact ⟨rfl, HE.out _ HU.out⟩
  · have hat' : decide (1 ≤ at_) = true := by simp; omega
    have v0 := g.blk.cell 0
    have v1 := g.blk.cell 1
    have v2 := g.blk.cell 2
    have hGl := g.blk.lt
    have hone := g.one
    have hlen := g.len
    have h0 := hF.t0
    have h1 := hF.t1
    obtain ⟨b, cp, hVe, hVb⟩ : ∃ b cp, V = .slice (some ⟨b, 0, none⟩) rs.length cp ∧ ∃ cur, Blk w b 34 cur ∧ cur.toList.take (rs.length * 2) = refCells rs := by
      rcases g.row.2 with ⟨_, e0⟩ | ⟨b, cp, cur, e, hb, _, _, _, ht⟩
      · omega
      · exact ⟨b, cp, e, cur, hb, ht⟩
    rw [hVe] at v2
    obtain ⟨j, hj, hj1⟩ : ∃ j : Nat, (rs.length : Int) - 1 - (at_ - 1) % (rs.length : Int) = (j : Nat) ∧ j < rs.length := by
      have a0 := Int.emod_nonneg (at_ - 1) (b := (rs.length : Int)) (by omega)
      have a1 := Int.emod_lt_of_pos (at_ - 1) (b := (rs.length : Int)) (by omega)
      exact ⟨((rs.length : Int) - 1 - (at_ - 1) % (rs.length : Int)).toNat, by omega, by omega⟩
    have hw9 : wrap64 ((rs.length : Int) - 1 - (at_ - 1) % (rs.length : Int)) = (j : Nat) := by rw [hj]; unfold wrap64; omega
    have hj2 : ((j : Nat) : Int) < (rs.length : Int) := by omega
    obtain ⟨cur, hBb, htk⟩ := hVb
    obtain ⟨y, hy⟩ : ∃ y, rs[j]? = some y := ⟨_, List.getElem?_eq_getElem hj1⟩
    have hbl := hBb.lt
    have hcc := refCells_at hy
    have u0 : w.cell? ⟨b, j * 2, none⟩ = some (.int .i64 y.1) := by
      rw [hBb.cell, ← hcc.1, ← htk, List.getElem?_take, if_pos (by omega)]; simp
    have u1 : w.cell? ⟨b, j * 2 + 1, none⟩ = some (.int .u64 y.2) := by
      rw [hBb.cell, ← hcc.2, ← htk, List.getElem?_take, if_pos (by omega)]; simp
    obtain ⟨ky, hyk, hyl, _⟩ := g.told y (List.mem_of_getElem? hy)
    have hN := g.pair.sim.held.n1
    have hc0 : Chg [] w ((((w.alloc (.cells #[.int .i64 4, .int .i64 ri, .int .u64 rq, .int .i64 at_, .int .i64 gs, .int .u64 n, .int .u64 per] 36)).alloc (obRef y.1 y.2)).drew).drew) := ((((Chg.refl [] w).alloc _).alloc _).drew).drew
    have hbx := (((Blk.new w 36 #[.int .i64 4, .int .i64 ri, .int .u64 rq, .int .i64 at_, .int .i64 gs, .int .u64 n, .int .u64 per]).alloc (obRef y.1 y.2)).drew).drew
    have hrx : Blk ((((w.alloc (.cells #[.int .i64 4, .int .i64 ri, .int .u64 rq, .int .i64 at_, .int .i64 gs, .int .u64 n, .int .u64 per] 36)).alloc (obRef y.1 y.2)).drew).drew) (w.heap.size + 1) 34 #[.int .i64 y.1, .int .u64 y.2] := ((Blk.at' _ 34 _ (by simp)).drew).drew
    have g1 := g.quiet hc0
    have HQ := Lib.hid (pair_leave g1.pair hM (i := y.1) (q := y.2) (by omega) (by omega))
    have HE := Lib.hid (fun (w2 : World) (hp : PTurns (fun r' _ => Grows r r') c S h S2 M ((((w.alloc (.cells #[.int .i64 4, .int .i64 ri, .int .u64 rq, .int .i64 at_, .int .i64 gs, .int .u64 n, .int .u64 per] 36)).alloc (obRef y.1 y.2)).drew).drew) w2) => GTurns.weak ((g1.turn hp (fun _ _ x => x)).earlier hc0))
    have HG := Lib.hid g1.blk
    have HR := Lib.hid hrx
    have HA := Lib.hid hbx
    have hs1 : G ∉ S ∧ w.heap.size + 1 ∉ S ∧ w.heap.size ∉ S := ⟨fun x => g.G_off.1 (List.mem_cons_of_mem _ x), fun x => by have := g.pair.dm.lt _ (List.mem_cons_of_mem _ x); omega, fun x => by have := g.pair.dm.lt _ (List.mem_cons_of_mem _ x); omega⟩
    have hs2 : G ∉ S2 ∧ w.heap.size + 1 ∉ S2 ∧ w.heap.size ∉ S2 := ⟨g.G_off.2.1, fun x => by have := g.pair.rf.lt _ x; omega, fun x => by have := g.pair.rf.lt _ x; omega⟩
    have HS1 := Lib.hid hs1
    have HS2 := Lib.hid hs2
    clear hc0 hbx hrx g1 g hs1 hs2 hF hj hBb htk hy hcc hyk hN
    go_enter Try.func13, Try.ntmps13
    go_wp2
    go_region
    go_wp2
    go_region_held3 (fun w' => w'.cell? ⟨G, 0, none⟩ = some (ptr c) ∧ w'.cell? ⟨G, 1, none⟩ = some (ptr h) ∧ w'.cell? ⟨w.heap.size + 1, 0, none⟩ = some (.int .i64 y.1) ∧ w'.cell? ⟨w.heap.size + 1, 1, none⟩ = some (.int .u64 y.2) ∧ w'.cell? ⟨w.heap.size, 5, none⟩ = some (.int .u64 n))
      (first | go_keep)
      (first
        | (go_at_call 20; refine HQ.out.mono ?_; rintro e w1 ⟨E, rfl, hH⟩; have HG5 := Lib.hid (HG.out.chg hH.chg HS1.out.1); have HR5 := Lib.hid (HR.out.chg hH.chg HS1.out.2.1); have HA5 := Lib.hid (HA.out.chg hH.chg HS1.out.2.2); have k0 := HG5.out.cell 0; have k1 := HG5.out.cell 1; have k2 := HR5.out.cell 0; have k3 := HR5.out.cell 1; have k4 := HA5.out.cell 5; have HH := Lib.hid hH; have hEE : (E == E) = true := beq_self_eq_true E)
        | (go_at_call 41; refine (HH.out.call (Chg.refl [] _)).mono ?_; rintro e w2 ⟨rfl, hU, hc2⟩; have HG6 := Lib.hid (HG5.out.chg hc2 HS2.out.1); have HR6 := Lib.hid (HR5.out.chg hc2 HS2.out.2.1); have HA6 := Lib.hid (HA5.out.chg hc2 HS2.out.2.2); have j0 := HG6.out.cell 0; have j1 := HG6.out.cell 1; have j2 := HR6.out.cell 0; have j3 := HR6.out.cell 1; have j4 := HA6.out.cell 5; have HU := Lib.hid hU))
    all_goals
      go_wp2
      go_ret
      exact ⟨rfl, HE.out _ HU.out⟩

set_option maxRecDepth 100000 in
set_option maxHeartbeats 6400000 in
theorem do5 (g : Game w G c S h S2 V rs M t r ch) (hM : M + 1 ≤ 1000) {ri rq at_ gs n per : Int} (hF : ActC.Fits ⟨5, ri, rq, at_, gs, n, per⟩) :
    Calls Try.prog 13 #[ptr G, .agg #[.int .i64 5, .int .i64 ri, .int .u64 rq, .int .i64 at_, .int .i64 gs, .int .u64 n, .int .u64 per]] w (DoPost G c S h S2 V M r rs w) := by
  unfold DoPost
  by_cases hat : at_ < 1
  · have hat' : decide (1 ≤ at_) = false := by simp; omega
    have hc0 : Chg [] w (((w.alloc (.cells #[.int .i64 5, .int .i64 ri, .int .u64 rq, .int .i64 at_, .int .i64 gs, .int .u64 n, .int .u64 per] 36)).alloc (obRef ri rq)).drew) := (((Chg.refl [] w).alloc _).alloc _).drew
    have hbx := ((Blk.new w 36 #[.int .i64 5, .int .i64 ri, .int .u64 rq, .int .i64 at_, .int .i64 gs, .int .u64 n, .int .u64 per]).alloc (obRef ri rq)).drew
    have hrx : Blk (((w.alloc (.cells #[.int .i64 5, .int .i64 ri, .int .u64 rq, .int .i64 at_, .int .i64 gs, .int .u64 n, .int .u64 per] 36)).alloc (obRef ri rq)).drew) (w.heap.size + 1) 34 #[.int .i64 ri, .int .u64 rq] := (Blk.at' _ 34 _ (by simp)).drew
    have g1 := g.quiet hc0
    have HQ := Lib.hid (pair_use g1.pair hM hF.r0 hF.r1 (q := rq) (n := n) hF.n0 hF.n1)
    have v0 := g.blk.cell 0
    have v1 := g.blk.cell 1
    have v2 := g.blk.cell 2
    have hGl := g.blk.lt
    clear hat
    have HE := Lib.hid (fun (w2 : World) (hp : PTurns (fun r' _ => Grows r r') c S h S2 M (((w.alloc (.cells #[.int .i64 5, .int .i64 ri, .int .u64 rq, .int .i64 at_, .int .i64 gs, .int .u64 n, .int .u64 per] 36)).alloc (obRef ri rq)).drew) w2) => GTurns.weak ((g1.turn hp (fun _ _ x => x)).earlier hc0))
    have HG := Lib.hid g1.blk
    have HR := Lib.hid hrx
    have HA := Lib.hid hbx
    have hs1 : G ∉ S ∧ w.heap.size + 1 ∉ S ∧ w.heap.size ∉ S := ⟨fun x => g.G_off.1 (List.mem_cons_of_mem _ x), fun x => by have := g.pair.dm.lt _ (List.mem_cons_of_mem _ x); omega, fun x => by have := g.pair.dm.lt _ (List.mem_cons_of_mem _ x); omega⟩
    have hs2 : G ∉ S2 ∧ w.heap.size + 1 ∉ S2 ∧ w.heap.size ∉ S2 := ⟨g.G_off.2.1, fun x => by have := g.pair.rf.lt _ x; omega, fun x => by have := g.pair.rf.lt _ x; omega⟩
    have HS1 := Lib.hid hs1
    have HS2 := Lib.hid hs2
    clear hc0 hbx hrx g1 g hs1 hs2 hF hM
    go_enter Try.func13, Try.ntmps13
    go_wp2
    go_region_held3 (fun w' => w'.cell? ⟨G, 0, none⟩ = some (ptr c) ∧ w'.cell? ⟨G, 1, none⟩ = some (ptr h) ∧ w'.cell? ⟨w.heap.size + 1, 0, none⟩ = some (.int .i64 ri) ∧ w'.cell? ⟨w.heap.size + 1, 1, none⟩ = some (.int .u64 rq) ∧ w'.cell? ⟨w.heap.size, 5, none⟩ = some (.int .u64 n))
      (first | go_keep)
      (first
        | (go_at_call 21; refine HQ.out.mono ?_; rintro e w1 ⟨E, rfl, hH⟩; have HG5 := Lib.hid (HG.out.chg hH.chg HS1.out.1); have HR5 := Lib.hid (HR.out.chg hH.chg HS1.out.2.1); have HA5 := Lib.hid (HA.out.chg hH.chg HS1.out.2.2); have k0 := HG5.out.cell 0; have k1 := HG5.out.cell 1; have k2 := HR5.out.cell 0; have k3 := HR5.out.cell 1; have k4 := HA5.out.cell 5; have HH := Lib.hid hH; have hEE : (E == E) = true := beq_self_eq_true E)
        | (go_at_call 42; refine (HH.out.call (Chg.refl [] _)).mono ?_; rintro e w2 ⟨rfl, hU, hc2⟩; have HG6 := Lib.hid (HG5.out.chg hc2 HS2.out.1); have HR6 := Lib.hid (HR5.out.chg hc2 HS2.out.2.1); have HA6 := Lib.hid (HA5.out.chg hc2 HS2.out.2.2); have j0 := HG6.out.cell 0; have j1 := HG6.out.cell 1; have j2 := HR6.out.cell 0; have j3 := HR6.out.cell 1; have j4 := HA6.out.cell 5; have HU := Lib.hid hU))
    all_goals
      go_wp2
      go_ret
      exact ⟨rfl, HE.out _ HU.out⟩
  · have hat' : decide (1 ≤ at_) = true := by simp; omega
    have v0 := g.blk.cell 0
    have v1 := g.blk.cell 1
    have v2 := g.blk.cell 2
    have hGl := g.blk.lt
    have hone := g.one
    have hlen := g.len
    have h0 := hF.t0
    have h1 := hF.t1
    obtain ⟨b, cp, hVe, hVb⟩ : ∃ b cp, V = .slice (some ⟨b, 0, none⟩) rs.length cp ∧ ∃ cur, Blk w b 34 cur ∧ cur.toList.take (rs.length * 2) = refCells rs := by
      rcases g.row.2 with ⟨_, e0⟩ | ⟨b, cp, cur, e, hb, _, _, _, ht⟩
      · omega
      · exact ⟨b, cp, e, cur, hb, ht⟩
    rw [hVe] at v2
    obtain ⟨j, hj, hj1⟩ : ∃ j : Nat, (rs.length : Int) - 1 - (at_ - 1) % (rs.length : Int) = (j : Nat) ∧ j < rs.length := by
      have a0 := Int.emod_nonneg (at_ - 1) (b := (rs.length : Int)) (by omega)
      have a1 := Int.emod_lt_of_pos (at_ - 1) (b := (rs.length : Int)) (by omega)
      exact ⟨((rs.length : Int) - 1 - (at_ - 1) % (rs.length : Int)).toNat, by omega, by omega⟩
    have hw9 : wrap64 ((rs.length : Int) - 1 - (at_ - 1) % (rs.length : Int)) = (j : Nat) := by rw [hj]; unfold wrap64; omega
    have hj2 : ((j : Nat) : Int) < (rs.length : Int) := by omega
    obtain ⟨cur, hBb, htk⟩ := hVb
    obtain ⟨y, hy⟩ : ∃ y, rs[j]? = some y := ⟨_, List.getElem?_eq_getElem hj1⟩
    have hbl := hBb.lt
    have hcc := refCells_at hy
    have u0 : w.cell? ⟨b, j * 2, none⟩ = some (.int .i64 y.1) := by
      rw [hBb.cell, ← hcc.1, ← htk, List.getElem?_take, if_pos (by omega)]; simp
    have u1 : w.cell? ⟨b, j * 2 + 1, none⟩ = some (.int .u64 y.2) := by
      rw [hBb.cell, ← hcc.2, ← htk, List.getElem?_take, if_pos (by omega)]; simp
    obtain ⟨ky, hyk, hyl, _⟩ := g.told y (List.mem_of_getElem? hy)
    have hN := g.pair.sim.held.n1
    have hc0 : Chg [] w ((((w.alloc (.cells #[.int .i64 5, .int .i64 ri, .int .u64 rq, .int .i64 at_, .int .i64 gs, .int .u64 n, .int .u64 per] 36)).alloc (obRef y.1 y.2)).drew).drew) := ((((Chg.refl [] w).alloc _).alloc _).drew).drew
    have hbx := (((Blk.new w 36 #[.int .i64 5, .int .i64 ri, .int .u64 rq, .int .i64 at_, .int .i64 gs, .int .u64 n, .int .u64 per]).alloc (obRef y.1 y.2)).drew).drew
    have hrx : Blk ((((w.alloc (.cells #[.int .i64 5, .int .i64 ri, .int .u64 rq, .int .i64 at_, .int .i64 gs, .int .u64 n, .int .u64 per] 36)).alloc (obRef y.1 y.2)).drew).drew) (w.heap.size + 1) 34 #[.int .i64 y.1, .int .u64 y.2] := ((Blk.at' _ 34 _ (by simp)).drew).drew
    have g1 := g.quiet hc0
    have HQ := Lib.hid (pair_use g1.pair hM (i := y.1) (q := y.2) (by omega) (by omega) (n := n) hF.n0 hF.n1)
    have HE := Lib.hid (fun (w2 : World) (hp : PTurns (fun r' _ => Grows r r') c S h S2 M ((((w.alloc (.cells #[.int .i64 5, .int .i64 ri, .int .u64 rq, .int .i64 at_, .int .i64 gs, .int .u64 n, .int .u64 per] 36)).alloc (obRef y.1 y.2)).drew).drew) w2) => GTurns.weak ((g1.turn hp (fun _ _ x => x)).earlier hc0))
    have HG := Lib.hid g1.blk
    have HR := Lib.hid hrx
    have HA := Lib.hid hbx
    have hs1 : G ∉ S ∧ w.heap.size + 1 ∉ S ∧ w.heap.size ∉ S := ⟨fun x => g.G_off.1 (List.mem_cons_of_mem _ x), fun x => by have := g.pair.dm.lt _ (List.mem_cons_of_mem _ x); omega, fun x => by have := g.pair.dm.lt _ (List.mem_cons_of_mem _ x); omega⟩
    have hs2 : G ∉ S2 ∧ w.heap.size + 1 ∉ S2 ∧ w.heap.size ∉ S2 := ⟨g.G_off.2.1, fun x => by have := g.pair.rf.lt _ x; omega, fun x => by have := g.pair.rf.lt _ x; omega⟩
    have HS1 := Lib.hid hs1
    have HS2 := Lib.hid hs2
    clear hc0 hbx hrx g1 g hs1 hs2 hF hj hBb htk hy hcc hyk hN
    go_enter Try.func13, Try.ntmps13
    go_wp2
    go_region
    go_wp2
    go_region_held3 (fun w' => w'.cell? ⟨G, 0, none⟩ = some (ptr c) ∧ w'.cell? ⟨G, 1, none⟩ = some (ptr h) ∧ w'.cell? ⟨w.heap.size + 1, 0, none⟩ = some (.int .i64 y.1) ∧ w'.cell? ⟨w.heap.size + 1, 1, none⟩ = some (.int .u64 y.2) ∧ w'.cell? ⟨w.heap.size, 5, none⟩ = some (.int .u64 n))
      (first | go_keep)
      (first
        | (go_at_call 21; refine HQ.out.mono ?_; rintro e w1 ⟨E, rfl, hH⟩; have HG5 := Lib.hid (HG.out.chg hH.chg HS1.out.1); have HR5 := Lib.hid (HR.out.chg hH.chg HS1.out.2.1); have HA5 := Lib.hid (HA.out.chg hH.chg HS1.out.2.2); have k0 := HG5.out.cell 0; have k1 := HG5.out.cell 1; have k2 := HR5.out.cell 0; have k3 := HR5.out.cell 1; have k4 := HA5.out.cell 5; have HH := Lib.hid hH; have hEE : (E == E) = true := beq_self_eq_true E)
        | (go_at_call 42; refine (HH.out.call (Chg.refl [] _)).mono ?_; rintro e w2 ⟨rfl, hU, hc2⟩; have HG6 := Lib.hid (HG5.out.chg hc2 HS2.out.1); have HR6 := Lib.hid (HR5.out.chg hc2 HS2.out.2.1); have HA6 := Lib.hid (HA5.out.chg hc2 HS2.out.2.2); have j0 := HG6.out.cell 0; have j1 := HG6.out.cell 1; have j2 := HR6.out.cell 0; have j3 := HR6.out.cell 1; have j4 := HA6.out.cell 5; have HU := Lib.hid hU))
    all_goals
      go_wp2
      go_ret
      exact ⟨rfl, HE.out _ HU.out⟩

set_option maxRecDepth 100000 in
set_option maxHeartbeats 6400000 in
theorem do6 (g : Game w G c S h S2 V rs M t r ch) (hM : M + 1 ≤ 1000) {ri rq at_ gs n per : Int} (hF : ActC.Fits ⟨6, ri, rq, at_, gs, n, per⟩) :
    Calls Try.prog 13 #[ptr G, .agg #[.int .i64 6, .int .i64 ri, .int .u64 rq, .int .i64 at_, .int .i64 gs, .int .u64 n, .int .u64 per]] w (DoPost G c S h S2 V M r rs w) := by
  unfold DoPost
  by_cases hat : at_ < 1
  · have hat' : decide (1 ≤ at_) = false := by simp; omega
    have hc0 : Chg [] w (((w.alloc (.cells #[.int .i64 6, .int .i64 ri, .int .u64 rq, .int .i64 at_, .int .i64 gs, .int .u64 n, .int .u64 per] 36)).alloc (obRef ri rq)).drew) := (((Chg.refl [] w).alloc _).alloc _).drew
    have hbx := ((Blk.new w 36 #[.int .i64 6, .int .i64 ri, .int .u64 rq, .int .i64 at_, .int .i64 gs, .int .u64 n, .int .u64 per]).alloc (obRef ri rq)).drew
    have hrx : Blk (((w.alloc (.cells #[.int .i64 6, .int .i64 ri, .int .u64 rq, .int .i64 at_, .int .i64 gs, .int .u64 n, .int .u64 per] 36)).alloc (obRef ri rq)).drew) (w.heap.size + 1) 34 #[.int .i64 ri, .int .u64 rq] := (Blk.at' _ 34 _ (by simp)).drew
    have g1 := g.quiet hc0
    have HQ := Lib.hid (pair_clear g1.pair hM hF.r0 hF.r1 (q := rq))
    have v0 := g.blk.cell 0
    have v1 := g.blk.cell 1
    have v2 := g.blk.cell 2
    have hGl := g.blk.lt
    clear hat
    have HE := Lib.hid (fun (w2 : World) (hp : PTurns (fun r' _ => Grows r r') c S h S2 M (((w.alloc (.cells #[.int .i64 6, .int .i64 ri, .int .u64 rq, .int .i64 at_, .int .i64 gs, .int .u64 n, .int .u64 per] 36)).alloc (obRef ri rq)).drew) w2) => GTurns.weak ((g1.turn hp (fun _ _ x => x)).earlier hc0))
    have HG := Lib.hid g1.blk
    have HR := Lib.hid hrx
    have HA := Lib.hid hbx
    have hs1 : G ∉ S ∧ w.heap.size + 1 ∉ S ∧ w.heap.size ∉ S := ⟨fun x => g.G_off.1 (List.mem_cons_of_mem _ x), fun x => by have := g.pair.dm.lt _ (List.mem_cons_of_mem _ x); omega, fun x => by have := g.pair.dm.lt _ (List.mem_cons_of_mem _ x); omega⟩
    have hs2 : G ∉ S2 ∧ w.heap.size + 1 ∉ S2 ∧ w.heap.size ∉ S2 := ⟨g.G_off.2.1, fun x => by have := g.pair.rf.lt _ x; omega, fun x => by have := g.pair.rf.lt _ x; omega⟩
    have HS1 := Lib.hid hs1
    have HS2 := Lib.hid hs2
    clear hc0 hbx hrx g1 g hs1 hs2 hF hM
    go_enter Try.func13, Try.ntmps13
    go_wp2
    go_region_held3 (fun w' => w'.cell? ⟨G, 0, none⟩ = some (ptr c) ∧ w'.cell? ⟨G, 1, none⟩ = some (ptr h) ∧ w'.cell? ⟨w.heap.size + 1, 0, none⟩ = some (.int .i64 ri) ∧ w'.cell? ⟨w.heap.size + 1, 1, none⟩ = some (.int .u64 rq) ∧ w'.cell? ⟨w.heap.size, 5, none⟩ = some (.int .u64 n))
      (first | go_keep)
      (first
        | (go_at_call 22; refine HQ.out.mono ?_; rintro e w1 ⟨E, rfl, hH⟩; have HG5 := Lib.hid (HG.out.chg hH.chg HS1.out.1); have HR5 := Lib.hid (HR.out.chg hH.chg HS1.out.2.1); have HA5 := Lib.hid (HA.out.chg hH.chg HS1.out.2.2); have k0 := HG5.out.cell 0; have k1 := HG5.out.cell 1; have k2 := HR5.out.cell 0; have k3 := HR5.out.cell 1; have k4 := HA5.out.cell 5; have HH := Lib.hid hH; have hEE : (E == E) = true := beq_self_eq_true E)
        | (go_at_call 43; refine (HH.out.call (Chg.refl [] _)).mono ?_; rintro e w2 ⟨rfl, hU, hc2⟩; have HG6 := Lib.hid (HG5.out.chg hc2 HS2.out.1); have HR6 := Lib.hid (HR5.out.chg hc2 HS2.out.2.1); have HA6 := Lib.hid (HA5.out.chg hc2 HS2.out.2.2); have j0 := HG6.out.cell 0; have j1 := HG6.out.cell 1; have j2 := HR6.out.cell 0; have j3 := HR6.out.cell 1; have j4 := HA6.out.cell 5; have HU := Lib.hid hU))
    all_goals
      go_wp2
      go_ret
      exact ⟨rfl, HE.out _ HU.out⟩
  · have hat' : decide (1 ≤ at_) = true := by simp; omega
    have v0 := g.blk.cell 0
    have v1 := g.blk.cell 1
    have v2 := g.blk.cell 2
    have hGl := g.blk.lt
    have hone := g.one
    have hlen := g.len
    have h0 := hF.t0
    have h1 := hF.t1
    obtain ⟨b, cp, hVe, hVb⟩ : ∃ b cp, V = .slice (some ⟨b, 0, none⟩) rs.length cp ∧ ∃ cur, Blk w b 34 cur ∧ cur.toList.take (rs.length * 2) = refCells rs := by
      rcases g.row.2 with ⟨_, e0⟩ | ⟨b, cp, cur, e, hb, _, _, _, ht⟩
      · omega
      · exact ⟨b, cp, e, cur, hb, ht⟩
    rw [hVe] at v2
    obtain ⟨j, hj, hj1⟩ : ∃ j : Nat, (rs.length : Int) - 1 - (at_ - 1) % (rs.length : Int) = (j : Nat) ∧ j < rs.length := by
      have a0 := Int.emod_nonneg (at_ - 1) (b := (rs.length : Int)) (by omega)
      have a1 := Int.emod_lt_of_pos (at_ - 1) (b := (rs.length : Int)) (by omega)
      exact ⟨((rs.length : Int) - 1 - (at_ - 1) % (rs.length : Int)).toNat, by omega, by omega⟩
    have hw9 : wrap64 ((rs.length : Int) - 1 - (at_ - 1) % (rs.length : Int)) = (j : Nat) := by rw [hj]; unfold wrap64; omega
    have hj2 : ((j : Nat) : Int) < (rs.length : Int) := by omega
    obtain ⟨cur, hBb, htk⟩ := hVb
    obtain ⟨y, hy⟩ : ∃ y, rs[j]? = some y := ⟨_, List.getElem?_eq_getElem hj1⟩
    have hbl := hBb.lt
    have hcc := refCells_at hy
    have u0 : w.cell? ⟨b, j * 2, none⟩ = some (.int .i64 y.1) := by
      rw [hBb.cell, ← hcc.1, ← htk, List.getElem?_take, if_pos (by omega)]; simp
    have u1 : w.cell? ⟨b, j * 2 + 1, none⟩ = some (.int .u64 y.2) := by
      rw [hBb.cell, ← hcc.2, ← htk, List.getElem?_take, if_pos (by omega)]; simp
    obtain ⟨ky, hyk, hyl, _⟩ := g.told y (List.mem_of_getElem? hy)
    have hN := g.pair.sim.held.n1
    have hc0 : Chg [] w ((((w.alloc (.cells #[.int .i64 6, .int .i64 ri, .int .u64 rq, .int .i64 at_, .int .i64 gs, .int .u64 n, .int .u64 per] 36)).alloc (obRef y.1 y.2)).drew).drew) := ((((Chg.refl [] w).alloc _).alloc _).drew).drew
    have hbx := (((Blk.new w 36 #[.int .i64 6, .int .i64 ri, .int .u64 rq, .int .i64 at_, .int .i64 gs, .int .u64 n, .int .u64 per]).alloc (obRef y.1 y.2)).drew).drew
    have hrx : Blk ((((w.alloc (.cells #[.int .i64 6, .int .i64 ri, .int .u64 rq, .int .i64 at_, .int .i64 gs, .int .u64 n, .int .u64 per] 36)).alloc (obRef y.1 y.2)).drew).drew) (w.heap.size + 1) 34 #[.int .i64 y.1, .int .u64 y.2] := ((Blk.at' _ 34 _ (by simp)).drew).drew
    have g1 := g.quiet hc0
    have HQ := Lib.hid (pair_clear g1.pair hM (i := y.1) (q := y.2) (by omega) (by omega))
    have HE := Lib.hid (fun (w2 : World) (hp : PTurns (fun r' _ => Grows r r') c S h S2 M ((((w.alloc (.cells #[.int .i64 6, .int .i64 ri, .int .u64 rq, .int .i64 at_, .int .i64 gs, .int .u64 n, .int .u64 per] 36)).alloc (obRef y.1 y.2)).drew).drew) w2) => GTurns.weak ((g1.turn hp (fun _ _ x => x)).earlier hc0))
    have HG := Lib.hid g1.blk
    have HR := Lib.hid hrx
    have HA := Lib.hid hbx
    have hs1 : G ∉ S ∧ w.heap.size + 1 ∉ S ∧ w.heap.size ∉ S := ⟨fun x => g.G_off.1 (List.mem_cons_of_mem _ x), fun x => by have := g.pair.dm.lt _ (List.mem_cons_of_mem _ x); omega, fun x => by have := g.pair.dm.lt _ (List.mem_cons_of_mem _ x); omega⟩
    have hs2 : G ∉ S2 ∧ w.heap.size + 1 ∉ S2 ∧ w.heap.size ∉ S2 := ⟨g.G_off.2.1, fun x => by have := g.pair.rf.lt _ x; omega, fun x => by have := g.pair.rf.lt _ x; omega⟩
    have HS1 := Lib.hid hs1
    have HS2 := Lib.hid hs2
    clear hc0 hbx hrx g1 g hs1 hs2 hF hj hBb htk hy hcc hyk hN
    go_enter Try.func13, Try.ntmps13
    go_wp2
    go_region
    go_wp2
    go_region_held3 (fun w' => w'.cell? ⟨G, 0, none⟩ = some (ptr c) ∧ w'.cell? ⟨G, 1, none⟩ = some (ptr h) ∧ w'.cell? ⟨w.heap.size + 1, 0, none⟩ = some (.int .i64 y.1) ∧ w'.cell? ⟨w.heap.size + 1, 1, none⟩ = some (.int .u64 y.2) ∧ w'.cell? ⟨w.heap.size, 5, none⟩ = some (.int .u64 n))
      (first | go_keep)
      (first
        | (go_at_call 22; refine HQ.out.mono ?_; rintro e w1 ⟨E, rfl, hH⟩; have HG5 := Lib.hid (HG.out.chg hH.chg HS1.out.1); have HR5 := Lib.hid (HR.out.chg hH.chg HS1.out.2.1); have HA5 := Lib.hid (HA.out.chg hH.chg HS1.out.2.2); have k0 := HG5.out.cell 0; have k1 := HG5.out.cell 1; have k2 := HR5.out.cell 0; have k3 := HR5.out.cell 1; have k4 := HA5.out.cell 5; have HH := Lib.hid hH; have hEE : (E == E) = true := beq_self_eq_true E)
        | (go_at_call 43; refine (HH.out.call (Chg.refl [] _)).mono ?_; rintro e w2 ⟨rfl, hU, hc2⟩; have HG6 := Lib.hid (HG5.out.chg hc2 HS2.out.1); have HR6 := Lib.hid (HR5.out.chg hc2 HS2.out.2.1); have HA6 := Lib.hid (HA5.out.chg hc2 HS2.out.2.2); have j0 := HG6.out.cell 0; have j1 := HG6.out.cell 1; have j2 := HR6.out.cell 0; have j3 := HR6.out.cell 1; have j4 := HA6.out.cell 5; have HU := Lib.hid hU))
    all_goals
      go_wp2
      go_ret
      exact ⟨rfl, HE.out _ HU.out⟩
end
end Go.Proofs
end
section
namespace Go.Proofs
open Go.RowKit Go.Shelf
set_option linter.unusedVariables false
set_option linter.unusedSimpArgs false
theorem step_append_ref (w : World) {ops : Array Oper} {o : Oper} {a : Act} {K : Act → World → Prop} {Q : Exit → Act → World → Prop} {E : Prop} (hgd : o.guard = none) (s y : Operand)
    (ho : o.op = .call { callee := .builtin .append, args := #[s, y], argTypes := #[40, 40] })
    {v : Value} {rs : List (Int × Int)} {B : Nat} {i q : Int} (hs : a.eval s = v) (hy : a.eval y = .slice (some ⟨B, 0, none⟩) 1 1) (hr : Row w 34 2 v rs.length (refCells rs)) (hB : Blk w B 34 #[.int .i64 i, .int .u64 q]) (hb : rs.length ≤ 1000)
    (h : ∀ g c' w', Row w' 34 2 (.slice (some ⟨g, 0, none⟩) (rs.length + 1) c') (rs ++ [(i, q)]).length (refCells (rs ++ [(i, q)])) → w.grownBy w' v.ownBlock → (v.ownBlock = some g ∨ g = w.heap.size) → K (a.put o.dst (.slice (some ⟨g, 0, none⟩) (rs.length + 1) c')) w') :
    if Region.wanted o (yielded ops a.tmps) = true then Oper.wp Try.prog o a w K Q else E := by
  have hw : Region.wanted o (yielded ops a.tmps) = true := by simp [Region.wanted, hgd]
  rw [if_pos hw]
  obtain ⟨i0, hi0, hz0, hz1, hz2⟩ := info_parts Try.info_R
  have hcell : ∀ j u, [Value.int .i64 i, .int .u64 q][j]? = some u → w.cell? ((⟨B, 0, none⟩ : Addr).add j) = some u := fun j u hu => by
    have hadd : (⟨B, 0, none⟩ : Addr).add j = ⟨B, j, none⟩ := by unfold Addr.add; split <;> simp_all
    rw [hadd, hB.cell]; simpa using hu
  obtain ⟨gg, cap, w', q1, q2, q3, q4, q5⟩ := run_append_row (P := Try.prog) w 40 o.type 34 i0 (.agg #[.int .i64 0, .int .u64 0]) 2 16 (by kernel_rfl) hi0 hz0 hz1 hz2 rfl v rs.length (refCells rs) hr ⟨B, 0, none⟩ 1 1 [.int .i64 i, .int .u64 q] rfl hcell (by simp [Value.oneCell']) (by omega) (by unfold maxLen; omega) (by omega) w.heap.size rfl
  rw [show refCells rs ++ [Value.int .i64 i, Value.int .u64 q] = refCells (rs ++ [(i, q)]) from (refCells_snoc rs (i, q)).symm] at q2
  unfold Oper.wp execOp
  simp only [ho, resolve, invoke, builtin, Sem.run_bind, Sem.run_pure, Result.andThen_ok, List.map_toArray, List.map_cons, List.map_nil, hs, hy, q1]
  exact h gg cap w' (by simpa using q2) q3 q4
/-- What is known behind a Carve. -/
abbrev CvQ (t : Tab Dm) (r : RTab) (ch : Nat → List (Int × Int)) (i q gs cpu per j p E : Int) : PQ := fun r' ch' => Grows r r' ∧ (E ≠ 0 → r' = r ∧ ch' = ch) ∧ (E = 0 → ∃ f k, Gets t r f ∧ i = ((k : Nat) : Int) ∧ q = (r.pl k).gen ∧ (r.pl k).is = true ∧ j = ((f : Nat) : Int) ∧ p = (r.pl f).gen ∧ r' = r.on i q gs cpu per ∧ ch' = chOn r ch f (ch k))
theorem PTurns.later {Q : PQ} {c h M : Nat} {S S2 : List Nat} {w w1 w2 : World} (H : PTurns Q c S h S2 M w w1) (hc : Chg [] w1 w2) : PTurns Q c S h S2 M w w2 := by
  obtain ⟨S', S2', t', r', ch', P, h1, h2, h3, h4⟩ := H
  exact ⟨S', S2', t', r', ch', P.quiet hc, h1, h2, h3.then hc, h4⟩
theorem PTurns.box {Q : PQ} {c h M : Nat} {S S2 : List Nat} {w w1 w2 : World} (H : PTurns Q c S h S2 M w w1) {B : Nat} {cs : Array Value} (hB : Blk w1 B 34 cs) (hb : w.heap.size ≤ B) (hc : Chg [B] w1 w2) : PTurns Q c S h S2 M w w2 := by
  obtain ⟨S', S2', t', r', ch', P, h1, h2, h3, h4⟩ := H
  have hn := P.dm.ne_ty hB (by decide) (by decide) (by decide) (by decide)
  have hn2 := P.rf.not_box hB (by decide) (by decide) (by decide)
  exact ⟨S', S2', t', r', ch', ⟨P.dm.chg hc (by simp; rintro rfl; exact hn List.mem_cons_self) (fun k hk => by simp; rintro rfl; exact hn (List.mem_cons_of_mem _ hk)), P.rf.chg hc (fun k hk => by simp; rintro rfl; exact hn2 hk), P.sim, P.ap⟩, h1, h2, h3.trans hc (fun k hk => by simp at hk; subst hk; exact .inr hb), h4⟩
theorem Half.box {Q : PQ} {f : Nat} {args : Array Value} {a : Ending} {c h M : Nat} {S S2 : List Nat} {w w1 w2 : World} (H : Half Q f args a c S h S2 M w w1) {B : Nat} {cs : Array Value} (hB : Blk w1 B 34 cs) (hb : w.heap.size ≤ B) (hc : Chg [B] w1 w2) : Half Q f args a c S h S2 M w w2 := by
  obtain ⟨t', ⟨S', h1, h2, h3⟩, h4⟩ := H
  have hn := h1.ne_ty hB (by decide) (by decide) (by decide) (by decide)
  refine ⟨t', ⟨S', h1.chg hc (by simp; rintro rfl; exact hn List.mem_cons_self) (fun k hk => by simp; rintro rfl; exact hn (List.mem_cons_of_mem _ hk)), h2, h3.trans hc (fun k hk => by simp at hk; subst hk; exact .inr hb)⟩, h4⟩
theorem Half.later {Q : PQ} {f : Nat} {args : Array Value} {a : Ending} {c h M : Nat} {S S2 : List Nat} {w w1 w2 : World} (H : Half Q f args a c S h S2 M w w1) (hc : Chg [] w1 w2) : Half Q f args a c S h S2 M w w2 := by
  obtain ⟨t', h1, h2⟩ := H
  exact ⟨t', h1.later hc, h2⟩
section
variable {w : World} {c h M : Nat} {S S2 : List Nat} {t : Tab Dm} {r : RTab} {ch : Nat → List (Int × Int)}
theorem pair_carve2 (P : Pair w c S h S2 M t r ch) (hM : M + 1 ≤ 1000) {i q gs cpu per : Int} (i0 : -9223372036854775808 ≤ i) (i1 : i ≤ 9223372036854775807) (c0 : 0 ≤ cpu) (p0 : 0 ≤ per) {W0 : World} (hW0 : Chg [] w W0) :
    Calls Try.prog 17 #[ptr c, .agg #[.int .i64 i, .int .u64 q], .int .i64 gs, .int .u64 cpu, .int .u64 per] W0 fun e w1 => ∃ j p E, e = refAns j p E ∧ (0 ≤ j ∧ j ≤ 4096) ∧ Chg S W0 w1 ∧ Half (CvQ t r ch i q gs cpu per j p E) 38 #[ptr h, .agg #[.int .i64 i, .int .u64 q], .int .i64 gs, .int .u64 cpu, .int .u64 per] (refAns j p E) c S h S2 M w w1 := by
  have hsame := carve_same P i q gs cpu per
  have hFl : r.F.length ≤ 1000 := by
    have := frees_len P.sim
    unfold Tab.frees at this
    have h1 := P.sim.held.n1
    have h2 := P.sim.size
    have h3 : t.freed.length ≤ t.spots.length := by
      have hnd := P.dm.wf.nodup
      have hlt : ∀ x ∈ t.freed, x < t.spots.length := fun x hx => by obtain ⟨s, hs, _⟩ := P.dm.wf.free x hx; exact (List.getElem?_eq_some_iff.1 hs).1
      exact nodup_len hnd hlt
    have h4 := P.sim.lenle
    omega
  have hFlt : ∀ f ∈ r.F, f < r.L.length := by
    intro f hf
    rw [P.sim.free] at hf
    have h0 := P.sim.held.n0
    rcases List.mem_append.1 hf with hf | hf
    · unfold newF at hf; simp at hf; obtain ⟨a, _, rfl⟩ := hf; omega
    · obtain ⟨s, hs, _⟩ := P.dm.wf.free f hf
      have := (List.getElem?_eq_some_iff.1 hs).1
      have := P.sim.lenle; omega
  refine (Carve_any (P.dm.quiet hW0) P.sim.oks i0 i1 c0 p0).mono ?_
  rintro e w1 (⟨hne, rfl, hD, hc⟩ | ⟨he, rfl, hT⟩)
  · refine ⟨_, _, _, rfl, by omega, hc.any, t, ⟨S, hD, fun k hk => .inl hk, (hW0.then hc).any⟩, fun W hTW => ?_⟩
    refine (rcarve_any (P.ref_at hTW) P.n0 P.sim.held.fine P.sim.held.Chs hFlt hFl c0 p0).mono ?_
    rintro e w2 (⟨hne2, rfl, hc2⟩ | ⟨he2, _⟩)
    · exact ⟨by rw [hsame], P.stay hM hTW (RTurns.refl (P.ref_at hTW) hc2) ⟨Grows.refl r, fun _ => ⟨rfl, rfl⟩, fun e => absurd e hne⟩⟩
    · rw [hsame] at he2; exact absurd he2 hne
  · have he2 := hsame.trans he
    have hparts : mayD gs cpu per = true ∧ r.is i q = true ∧ r.F ≠ [] ∧ ¬ ((r.get ch i q).gs < gs + (r.get ch i q).cgs + (r.get ch i q).own ∨ (r.get ch i q).cpu < cpu + (r.get ch i q).car) := by
      unfold rcarveE at he2
      cases hm : mayD gs cpu per with
      | false => rw [hm] at he2; simp at he2
      | true =>
        rw [hm] at he2
        cases hq : r.is i q with
        | false => rw [hq] at he2; simp at he2
        | true =>
          rw [hq] at he2
          simp only [if_true] at he2
          by_cases hb : ((r.get ch i q).gs < gs + (r.get ch i q).cgs + (r.get ch i q).own ∨ (r.get ch i q).cpu < cpu + (r.get ch i q).car)
          · rw [if_pos hb] at he2; simp at he2
          · rw [if_neg hb] at he2
            refine ⟨rfl, rfl, fun e => ?_, hb⟩
            rw [if_pos e] at he2; simp at he2
    obtain ⟨hm, hq, hF, hb⟩ := hparts
    obtain ⟨f, hg⟩ := P.sim.gets hF
    obtain ⟨k, rfl, hk, h1, rfl⟩ := is_pl.1 hq
    have e1 : (r.get ch (k : Nat) (r.pl k).gen).gs = (r.pl k).gs ∧ (r.get ch (k : Nat) (r.pl k).gen).own = (r.pl k).own ∧ (r.get ch (k : Nat) (r.pl k).gen).cgs = r.cgs (k : Nat) (r.pl k).gen ∧ (r.get ch (k : Nat) (r.pl k).gen).cpu = (r.pl k).cpu ∧ (r.get ch (k : Nat) (r.pl k).gen).car = r.car (k : Nat) (r.pl k).gen := by unfold RTab.get; simp
    rw [e1.1, e1.2.1, e1.2.2.1, e1.2.2.2.1, e1.2.2.2.2] at hb
    unfold mayD at hm
    simp at hm
    have hfl := hg.lt
    have hn1 := P.sim.held.n1
    rw [hg.takeAt]
    refine ⟨_, _, _, rfl, by omega, (by obtain ⟨_, _, _, h3⟩ := hT; exact h3), _, hT.earlier hW0, fun W hTW => ?_⟩
    refine (rcarve_any (P.ref_at hTW) P.n0 P.sim.held.fine P.sim.held.Chs hFlt hFl c0 p0).mono ?_
    rintro e w2 (⟨hne2, _⟩ | ⟨_, rfl, hR⟩)
    · exact absurd he2 hne2
    · refine ⟨by rw [hg.at0, hg.gen], P.turn hTW hR (P.sim.on hM hg rfl rfl h1 (by omega) (by omega) c0 (by omega) (by omega) (by omega)) ⟨Grows.on hg.at0 hg.lt _ _ _ _ _, fun e => absurd rfl e, fun _ => ⟨f, k, hg, rfl, rfl, h1, rfl, hg.gen, rfl, rfl⟩⟩⟩
end
theorem Game.next {Q : PQ} {G c h M : Nat} {S S2 : List Nat} {V : Value} {rs : List (Int × Int)} {t : Tab Dm} {r : RTab} {ch : Nat → List (Int × Int)} {w w1 : World} (g : Game w G c S h S2 V rs M t r ch) (hp : PTurns Q c S h S2 M w w1) (hQ : ∀ r' ch', Q r' ch' → Grows r r') :
    ∃ S' S2' t' r' ch', Game w1 G c S' h S2' V rs (M + 1) t' r' ch' ∧ (∀ k ∈ S', k ∈ S ∨ w.heap.size ≤ k) ∧ (∀ k ∈ S2', k ∈ S2 ∨ w.heap.size ≤ k) ∧ Chg (S ++ S2) w w1 ∧ Q r' ch' := by
  obtain ⟨S', S2', t', r', ch', P, h1, h2, hc, hq⟩ := hp
  obtain ⟨a1, a2, a3⟩ := g.G_off
  have a4 := g.V_off
  refine ⟨S', S2', t', r', ch', ⟨P, g.blk.chg hc (fun hm => ?_), g.row.chg hc (fun k hk hm => ?_), g.told_of (hQ _ _ hq), g.one, Nat.le_succ_of_le g.len⟩, h1, h2, hc, hq⟩
  · rcases List.mem_append.1 hm with hm | hm
    · exact a1 (List.mem_cons_of_mem _ hm)
    · exact a2 hm
  · rcases List.mem_append.1 hm with hm | hm
    · exact (a4 k hk).1 hm
    · exact (a4 k hk).2 hm
theorem GTurns.app {Q : PQ} {G c h M : Nat} {S S2 : List Nat} {V : Value} {rs : List (Int × Int)} {t : Tab Dm} {r : RTab} {ch : Nat → List (Int × Int)} {w w8 w9 W8 : World} (g : Game w G c S h S2 V rs M t r ch) {j p : Int}
    (hp : PTurns Q c S h S2 M w w8) (hQ : ∀ r' ch', Q r' ch' → Grows r r' ∧ ∃ k : Nat, j = (k : Nat) ∧ k < r'.L.length ∧ 0 ≤ p ∧ p = (r'.pl k).gen ∧ (r'.pl k).is = true) (hc8 : Chg [] w8 W8)
    {b cp : Nat} (hr : Row w9 34 2 (.slice (some ⟨b, 0, none⟩) (rs.length + 1) cp) (rs ++ [(j, p)]).length (refCells (rs ++ [(j, p)]))) (hg : W8.grownBy w9 V.ownBlock) (hb : V.ownBlock = some b ∨ b = W8.heap.size) :
    GTurns (fun r' ch' rs' => Grows r r' ∧ rs <+: rs') G c S h S2 V M w (w9.setCell ⟨G, 2, none⟩ (.slice (some ⟨b, 0, none⟩) (rs.length + 1) cp)) := by
  obtain ⟨S', S2', t', r', ch', g', h1, h2, hc, hq⟩ := g.next hp (fun r' ch' x => (hQ r' ch' x).1)
  obtain ⟨hgr, k0, hj, hk0, hp0, hpg, hpi⟩ := hQ r' ch' hq
  have g8 := g'.quiet hc8
  obtain ⟨a1, a2, a3⟩ := g8.G_off
  have a4 := g8.V_off
  have hc9 : Chg (foot V) W8 w9 := (Chg.refl _ _).grown hg (fun k hk => .inl (row_mem hk))
  have hcG : Chg [G] w9 (w9.setCell ⟨G, 2, none⟩ (.slice (some ⟨b, 0, none⟩) (rs.length + 1) cp)) := (Chg.refl _ _).setCell (.inl (by simp)) _
  have lG := g8.blk.lt
  have hbG : G ≠ b := by
    rintro rfl
    rcases hb with hb | hb
    · exact a3 (row_mem hb)
    · omega
  have hsz : w.heap.size ≤ W8.heap.size := Nat.le_trans hc.size hc8.size
  have hD9 := g8.pair.dm.chg hc9 (fun hm => by
    have := g8.pair.dm.lt c List.mem_cons_self
    obtain ⟨gg, hcb, _⟩ := g8.pair.dm
    exact g8.row.ty hcb (by decide) hm) (fun k hk hm => (a4 k hm).1 hk)
  have hR9 := g8.pair.rf.chg hc9 (fun k hk hm => (a4 k hm).2 hk)
  have hG9 := g8.blk.chg hc9 a3
  refine ⟨S', S2', .slice (some ⟨b, 0, none⟩) (rs.length + 1) cp, rs ++ [(j, p)], t', r', ch', ⟨⟨hD9.chg hcG (by simp; rintro rfl; exact a1 List.mem_cons_self) (fun k hk => by simp; rintro rfl; exact a1 (List.mem_cons_of_mem _ hk)), hR9.chg hcG (fun k hk => by simp; rintro rfl; exact a2 hk), g8.pair.sim, g8.pair.ap⟩, hG9.set_ 2 _, ?_, ?_, ?_, ?_⟩, ?_, ?_, hgr, List.prefix_append _ _⟩
  · rw [List.length_append] at hr ⊢
    exact hr.far (by simp [foot_some]; exact hbG) _
  · intro x hx
    rcases List.mem_append.1 hx with hx | hx
    · exact g8.told x hx
    · simp at hx; subst hx
      exact ⟨k0, hj, hk0, hp0, by simp only; omega, fun _ => hpi⟩
  · simp
  · have := g.len
    simp only [List.length_append, List.length_cons, List.length_nil]; omega
  · intro k hk
    rcases List.mem_cons.1 hk with rfl | hk
    · exact .inl List.mem_cons_self
    · rcases List.mem_append.1 hk with hk | hk
      · simp [foot_some] at hk; subst hk
        rcases hb with hb | hb
        · exact .inl (List.mem_cons_of_mem _ (List.mem_append_left _ (row_mem hb)))
        · exact .inr (by omega)
      · rcases List.mem_append.1 hk with hk | hk
        · exact (h1 k hk).imp (fun x => List.mem_cons_of_mem _ (List.mem_append_right _ (List.mem_append_left _ x))) id
        · exact (h2 k hk).imp (fun x => List.mem_cons_of_mem _ (List.mem_append_right _ (List.mem_append_right _ x))) id
  · refine ((chg_more hc (S' := gBlocks G V S S2) (fun k hk => List.mem_cons_of_mem _ (List.mem_append_right _ hk))).then hc8).trans hc9 (fun k hk => .inl (List.mem_cons_of_mem _ (List.mem_append_left _ hk))) |>.trans hcG (fun k hk => ?_)
    simp at hk; subst hk; exact .inl List.mem_cons_self
end Go.Proofs
end
