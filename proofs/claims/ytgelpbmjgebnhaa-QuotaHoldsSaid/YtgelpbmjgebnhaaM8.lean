import Derived.Test.YtgelpbmjgebnhaaM7
import Derived.Deep.RegionHeldLaw
import Derived.Test.YtgelpbmjgebnhaaM4
import Derived.Deep.LoopGhost
import Derived.WalkMore
import Derived.Laws.Externs
import Derived.RowKit3
import Derived.Below
import Derived.RangeFuncBox
import Derived.Maps.AppendAt
import Derived.Test.YtgelpbmjgebnhaaM3
section
namespace Go.Proofs
open Go.RowKit Go.Shelf
set_option linter.unusedVariables false
set_option linter.unusedSimpArgs false

/-! ### Both in memory -/
structure Pair (w : World) (c : Nat) (S : List Nat) (h : Nat) (S2 : List Nat) (M : Nat) (t : Tab Dm) (r : RTab) (ch : Nat → List (Int × Int)) : Prop where
  dm : DomAt w c S t
  rf : RefAt w h S2 r
  sim : Sim M t r ch
  ap : ∀ k ∈ S, k ∉ S2
/-- What was there stays, or goes for good. -/
structure Grows (r r' : RTab) : Prop where
  len : r'.L.length = r.L.length
  gen : ∀ k, (r.pl k).gen ≤ (r'.pl k).gen
  is : ∀ k, (r'.pl k).gen = (r.pl k).gen → (r.pl k).is = true → (r'.pl k).is = true
theorem Grows.refl (r : RTab) : Grows r r := ⟨rfl, fun _ => Int.le_refl _, fun _ _ h => h⟩
theorem Grows.trans {a b c : RTab} (h : Grows a b) (k : Grows b c) : Grows a c :=
  ⟨k.len.trans h.len, fun j => Int.le_trans (h.gen j) (k.gen j), fun j e hi => by
    have h1 := h.gen j
    have h2 := k.gen j
    exact k.is j (by omega) (h.is j (by omega) hi)⟩
theorem Grows.set1 {r : RTab} {k : Nat} (hk : k < r.L.length) (o u : Int) : Grows r (r.set1 k o u) :=
  ⟨set1_len, fun j => by rw [(set1_same hk j).1]; exact Int.le_refl _, fun j _ h => by rw [(set1_same hk j).2.1]; exact h⟩
theorem Grows.on {r : RTab} {f : Nat} (h0 : r.at0 = f) (hl : f < r.L.length) (i q gs cpu per : Int) : Grows r (r.on i q gs cpu per) :=
  ⟨on_len, fun j => by rw [on_pl h0 hl]; split; (next e => subst e; exact Int.le_refl _); exact Int.le_refl _, fun j _ h => by rw [on_pl h0 hl]; split; rfl; exact h⟩
abbrev PQ := RTab → (Nat → List (Int × Int)) → Prop
def PTurns (Q : PQ) (c : Nat) (S : List Nat) (h : Nat) (S2 : List Nat) (M : Nat) (w w' : World) : Prop :=
  ∃ S' S2' t' r' ch', Pair w' c S' h S2' (M + 1) t' r' ch' ∧ (∀ k ∈ S', k ∈ S ∨ w.heap.size ≤ k) ∧ (∀ k ∈ S2', k ∈ S2 ∨ w.heap.size ≤ k) ∧ Chg (S ++ S2) w w' ∧ Q r' ch'
theorem Sim.more {M : Nat} {t : Tab Dm} {r : RTab} {ch : Nat → List (Int × Int)} (h : Sim M t r ch) (hM : M + 1 ≤ 1000) : Sim (M + 1) t r ch :=
  { h with held := { h.held with chs := fun k hk => ⟨(h.held.chs k hk).1, by have := (h.held.chs k hk).2; omega⟩, nums := fun k hk => by obtain ⟨a, b, c, d, e⟩ := h.held.nums k hk; exact ⟨a, b, c, d, by omega⟩, m := hM } }
section
variable {w W w2 : World} {c h M : Nat} {S S2 : List Nat} {t t' : Tab Dm} {r r' : RTab} {ch ch' : Nat → List (Int × Int)}
theorem Pair.c_off (P : Pair w c S h S2 M t r ch) : c ∉ S2 := by
  obtain ⟨g, h1, _⟩ := P.dm
  exact P.rf.not_box h1 (by decide) (by decide) (by decide)
theorem Pair.ref_at (P : Pair w c S h S2 M t r ch) (hT : DomTurns c S t' w W) : RefAt W h S2 r := by
  obtain ⟨S1, h1, h2, h3⟩ := hT
  exact P.rf.chg h3 (fun k hk hS => P.ap k hS hk)
theorem Pair.turn (P : Pair w c S h S2 M t r ch) (hT : DomTurns c S t' w W) (hR : RTurns h S2 r' W w2) (hs : Sim (M + 1) t' r' ch') {Q : PQ} (hQ : Q r' ch') : PTurns Q c S h S2 M w w2 ∧ Chg S2 W w2 := by
  have hrW := P.ref_at hT
  obtain ⟨S1, h1, h2, h3⟩ := hT
  obtain ⟨SR1, k1, k2, k3⟩ := hR
  have hc2 : c ∉ S2 := P.c_off
  have ha : ∀ k ∈ S1, k ∉ S2 := fun k hk hm => by
    rcases h2 k hk with hk | hk
    · exact P.ap k hk hm
    · have := P.rf.lt k hm; omega
  have hl := h1.lt
  refine ⟨⟨S1, SR1, t', r', ch', ⟨h1.chg k3 hc2 ha, k1, hs, fun k hk hm => ?_⟩, h2, fun k hk => (k2 k hk).imp id (fun h => Nat.le_trans h3.size h), ?_, hQ⟩, k3⟩
  · rcases k2 k hm with hm | hm
    · exact ha k hk hm
    · have := hl k (List.mem_cons_of_mem _ hk); omega
  · exact (h3.mono (S' := S ++ S2) (fun k hk => .inl (List.mem_append.2 (.inl hk)))).trans k3 (fun k hk => .inl (List.mem_append.2 (.inr hk)))
theorem Pair.stay (P : Pair w c S h S2 M t r ch) (hM : M + 1 ≤ 1000) (hT : DomTurns c S t w W) (hR : RTurns h S2 r W w2) {Q : PQ} (hQ : Q r ch) : PTurns Q c S h S2 M w w2 ∧ Chg S2 W w2 := P.turn hT hR (P.sim.more hM) hQ
theorem Pair.quiet (P : Pair w c S h S2 M t r ch) (hc : Chg [] w W) : Pair W c S h S2 M t r ch := ⟨P.dm.quiet hc, P.rf.quiet hc, P.sim, P.ap⟩
end
/-- The one has acted: the other one then answers the same, and both are again a pair. -/
def Half (Q : PQ) (f : Nat) (args : Array Value) (a : Ending) (c : Nat) (S : List Nat) (h : Nat) (S2 : List Nat) (M : Nat) (w w1 : World) : Prop :=
  ∃ t', DomTurns c S t' w w1 ∧ ∀ W, DomTurns c S t' w W → Calls Try.prog f args W fun e w2 => e = a ∧ PTurns Q c S h S2 M w w2 ∧ Chg S2 W w2
section
variable {Q : PQ} {f : Nat} {args : Array Value} {a : Ending} {c h M : Nat} {S S2 : List Nat} {w w1 w2 : World}
theorem Half.chg (H : Half Q f args a c S h S2 M w w1) : Chg S w w1 := by obtain ⟨t', ⟨S', h1, h2, h3⟩, _⟩ := H; exact h3
theorem Half.call (H : Half Q f args a c S h S2 M w w1) {W : World} (hc : Chg [] w1 W) : Calls Try.prog f args W fun e w2 => e = a ∧ PTurns Q c S h S2 M w w2 ∧ Chg S2 W w2 := by
  obtain ⟨t', h1, h2⟩ := H
  exact h2 W (h1.later hc)
end
section
variable {w : World} {c h M : Nat} {S S2 : List Nat} {t : Tab Dm} {r : RTab} {ch : Nat → List (Int × Int)}
theorem Pair.n0 (P : Pair w c S h S2 M t r ch) : 0 < r.L.length := P.sim.held.n0
theorem pair_use (P : Pair w c S h S2 M t r ch) (hM : M + 1 ≤ 1000) {i q : Int} (i0 : -9223372036854775808 ≤ i) (i1 : i ≤ 9223372036854775807) {n : Int} (n0 : 0 ≤ n) (n1 : n < 18446744073709551616) :
    Calls Try.prog 12 #[ptr c, .agg #[.int .i64 i, .int .u64 q], .int .u64 n] w fun e w1 => ∃ E, e = .returned (.int .i64 E) ∧ Half (fun r' _ => Grows r r') 13 #[ptr h, .agg #[.int .i64 i, .int .u64 q], .int .u64 n] (.returned (.int .i64 E)) c S h S2 M w w1 := by
  refine (Use_any P.dm P.sim.oks i0 i1 n n0 n1).mono ?_
  rintro e w1 ⟨rfl, hD, hc⟩
  refine ⟨_, rfl, _, ⟨S, hD, fun k hk => .inl hk, hc⟩, fun W hTW => ?_⟩
  refine (ruse_any (P.ref_at hTW) P.n0 P.sim.held.fine n n0 n1).mono ?_
  rintro e w2 ⟨rfl, hR⟩
  unfold staleE
  rw [P.sim.has]
  cases hq : r.is i q with
  | false =>
    rw [hq] at hR
    simp only [Bool.false_eq_true, if_false] at hR ⊢
    rw [Tab.upd_no (by rw [P.sim.has]; exact hq)] at hTW
    exact ⟨trivial, P.stay hM hTW hR (Grows.refl r)⟩
  | true =>
    rw [hq] at hR
    obtain ⟨k, rfl, hk, h1, rfl⟩ := is_pl.1 hq
    simp only [if_true, Int.toNat_natCast] at hR ⊢
    have hnum := (P.sim.held.nums k hk).2.2.2.1
    refine ⟨trivial, P.turn hTW hR ((P.sim.usedTo h1 _ (addS (r.pl k).used n) (fun x hx => by rw [hx]) ?_ ?_).more hM) (Grows.set1 hk _ _)⟩
    · unfold addS; split <;> omega
    · unfold addS; split <;> omega
theorem pair_clear (P : Pair w c S h S2 M t r ch) (hM : M + 1 ≤ 1000) {i q : Int} (i0 : -9223372036854775808 ≤ i) (i1 : i ≤ 9223372036854775807) :
    Calls Try.prog 41 #[ptr c, .agg #[.int .i64 i, .int .u64 q]] w fun e w1 => ∃ E, e = .returned (.int .i64 E) ∧ Half (fun r' _ => Grows r r') 42 #[ptr h, .agg #[.int .i64 i, .int .u64 q]] (.returned (.int .i64 E)) c S h S2 M w w1 := by
  refine (Clear_any P.dm i0 i1).mono ?_
  rintro e w1 ⟨rfl, hD, hc⟩
  refine ⟨_, rfl, _, ⟨S, hD, fun k hk => .inl hk, hc⟩, fun W hTW => ?_⟩
  refine (rclear_any (P.ref_at hTW) P.n0 P.sim.held.fine).mono ?_
  rintro e w2 ⟨rfl, hR⟩
  unfold staleE
  rw [P.sim.has]
  cases hq : r.is i q with
  | false =>
    rw [hq] at hR
    simp only [Bool.false_eq_true, if_false] at hR ⊢
    rw [Tab.upd_no (by rw [P.sim.has]; exact hq)] at hTW
    exact ⟨trivial, P.stay hM hTW hR (Grows.refl r)⟩
  | true =>
    rw [hq] at hR
    obtain ⟨k, rfl, hk, h1, rfl⟩ := is_pl.1 hq
    simp only [if_true, Int.toNat_natCast] at hR ⊢
    exact ⟨trivial, P.turn hTW hR ((P.sim.usedTo h1 _ 0 (fun x hx => rfl) (by omega) (by omega)).more hM) (Grows.set1 hk _ _)⟩
/-- The answer of what makes a domain. -/
abbrev refAns (i q E : Int) : Ending := .returned (.tuple #[.agg #[.int .i64 i, .int .u64 q], .int .i64 E])
theorem carve_same (P : Pair w c S h S2 M t r ch) (i q gs cpu per : Int) : rcarveE r ch i q gs cpu per = carveE t i q gs cpu per := by
  unfold rcarveE carveE
  cases hm : mayD gs cpu per with
  | false => rfl
  | true =>
    rw [P.sim.has]
    cases hq : r.is i q with
    | false => rfl
    | true =>
      rw [P.sim.at_ hq]
      obtain ⟨k, rfl, hk, h1, rfl⟩ := is_pl.1 hq
      have hroom := P.sim.held.room k h1
      have e1 : (r.get ch (k : Nat) (r.pl k).gen).gs = (r.pl k).gs ∧ (r.get ch (k : Nat) (r.pl k).gen).own = (r.pl k).own ∧ (r.get ch (k : Nat) (r.pl k).gen).cgs = r.cgs (k : Nat) (r.pl k).gen ∧ (r.get ch (k : Nat) (r.pl k).gen).cpu = (r.pl k).cpu ∧ (r.get ch (k : Nat) (r.pl k).gen).car = r.car (k : Nat) (r.pl k).gen := by unfold RTab.get; simp
      rw [e1.1, e1.2.1, e1.2.2.1, e1.2.2.2.1, e1.2.2.2.2]
      have ef : t.frees = 0 ↔ r.F = [] := by
        rw [frees_len P.sim]
        constructor
        · intro e; exact List.length_eq_zero_iff.1 (by omega)
        · intro e; rw [e]; rfl
      have es : subS (r.pl k).cpu (r.car (k : Nat) (r.pl k).gen) = (r.pl k).cpu - r.car (k : Nat) (r.pl k).gen := by unfold subS; rw [if_neg (by omega)]
      rw [es]
      have ec : ((r.pl k).gs < gs + r.cgs (k : Nat) (r.pl k).gen + (r.pl k).own ∨ (r.pl k).cpu < cpu + r.car (k : Nat) (r.pl k).gen) ↔ ((r.pl k).gs - r.cgs (k : Nat) (r.pl k).gen - (r.pl k).own < gs ∨ (r.pl k).cpu - r.car (k : Nat) (r.pl k).gen < cpu) := by omega
      simp only [if_true, ec, ef]
theorem pair_carve (P : Pair w c S h S2 M t r ch) (hM : M + 1 ≤ 1000) {i q gs cpu per : Int} (i0 : -9223372036854775808 ≤ i) (i1 : i ≤ 9223372036854775807) (c0 : 0 ≤ cpu) (p0 : 0 ≤ per) :
    Calls Try.prog 34 #[ptr c, .agg #[.int .i64 i, .int .u64 q], .int .i64 gs, .int .u64 cpu, .int .u64 per] w fun e w1 => ∃ j p E, e = refAns j p E ∧ (0 ≤ j ∧ j ≤ 4096) ∧ Half (fun r' ch' => Grows r r' ∧ (E ≠ 0 → r' = r ∧ ch' = ch) ∧ (E = 0 → ∃ f k, Gets t r f ∧ i = ((k : Nat) : Int) ∧ q = (r.pl k).gen ∧ (r.pl k).is = true ∧ j = ((f : Nat) : Int) ∧ p = (r.pl f).gen ∧ r' = r.on i q gs cpu per ∧ ch' = chOn r ch f (ch k))) 35 #[ptr h, .agg #[.int .i64 i, .int .u64 q], .int .i64 gs, .int .u64 cpu, .int .u64 per] (refAns j p E) c S h S2 M w w1 := by
  have hsame := carve_same P i q gs cpu per
  have hFl : r.F.length ≤ 1000 := by
    have := frees_len P.sim
    unfold Tab.frees at this
    have h1 := P.sim.held.n1
    have h2 := P.sim.size
    have h3 : t.freed.length ≤ t.spots.length := by
      have hnd := P.dm.wf.nodup
      have hlt : ∀ x ∈ t.freed, x < t.spots.length := fun x hx => by obtain ⟨s, hs, _⟩ := P.dm.wf.free x hx; exact (List.getElem?_eq_some_iff.1 hs).1
      exact nodup_len hnd hlt
    have h4 := P.sim.lenle
    omega
  have hFlt : ∀ f ∈ r.F, f < r.L.length := by
    intro f hf
    rw [P.sim.free] at hf
    have h0 := P.sim.held.n0
    rcases List.mem_append.1 hf with hf | hf
    · unfold newF at hf; simp at hf; obtain ⟨a, _, rfl⟩ := hf; omega
    · obtain ⟨s, hs, _⟩ := P.dm.wf.free f hf
      have := (List.getElem?_eq_some_iff.1 hs).1
      have := P.sim.lenle; omega
  refine (Carve_any P.dm P.sim.oks i0 i1 c0 p0).mono ?_
  rintro e w1 (⟨hne, rfl, hD, hc⟩ | ⟨he, rfl, hT⟩)
  · refine ⟨_, _, _, rfl, by omega, t, ⟨S, hD, fun k hk => .inl hk, hc.any⟩, fun W hTW => ?_⟩
    refine (rcarve_any (P.ref_at hTW) P.n0 P.sim.held.fine P.sim.held.Chs hFlt hFl c0 p0).mono ?_
    rintro e w2 (⟨hne2, rfl, hc2⟩ | ⟨he2, _⟩)
    · exact ⟨by rw [hsame], P.stay hM hTW (RTurns.refl (P.ref_at hTW) hc2) ⟨Grows.refl r, fun _ => ⟨rfl, rfl⟩, fun e => absurd e hne⟩⟩
    · rw [hsame] at he2; exact absurd he2 hne
  · have he2 := hsame.trans he
    have hparts : mayD gs cpu per = true ∧ r.is i q = true ∧ r.F ≠ [] ∧ ¬ ((r.get ch i q).gs < gs + (r.get ch i q).cgs + (r.get ch i q).own ∨ (r.get ch i q).cpu < cpu + (r.get ch i q).car) := by
      unfold rcarveE at he2
      cases hm : mayD gs cpu per with
      | false => rw [hm] at he2; simp at he2
      | true =>
        rw [hm] at he2
        cases hq : r.is i q with
        | false => rw [hq] at he2; simp at he2
        | true =>
          rw [hq] at he2
          simp only [if_true] at he2
          by_cases hb : ((r.get ch i q).gs < gs + (r.get ch i q).cgs + (r.get ch i q).own ∨ (r.get ch i q).cpu < cpu + (r.get ch i q).car)
          · rw [if_pos hb] at he2; simp at he2
          · rw [if_neg hb] at he2
            refine ⟨rfl, rfl, fun e => ?_, hb⟩
            rw [if_pos e] at he2; simp at he2
    obtain ⟨hm, hq, hF, hb⟩ := hparts
    obtain ⟨f, hg⟩ := P.sim.gets hF
    obtain ⟨k, rfl, hk, h1, rfl⟩ := is_pl.1 hq
    have e1 : (r.get ch (k : Nat) (r.pl k).gen).gs = (r.pl k).gs ∧ (r.get ch (k : Nat) (r.pl k).gen).own = (r.pl k).own ∧ (r.get ch (k : Nat) (r.pl k).gen).cgs = r.cgs (k : Nat) (r.pl k).gen ∧ (r.get ch (k : Nat) (r.pl k).gen).cpu = (r.pl k).cpu ∧ (r.get ch (k : Nat) (r.pl k).gen).car = r.car (k : Nat) (r.pl k).gen := by unfold RTab.get; simp
    rw [e1.1, e1.2.1, e1.2.2.1, e1.2.2.2.1, e1.2.2.2.2] at hb
    unfold mayD at hm
    simp at hm
    have hfl := hg.lt
    have hn1 := P.sim.held.n1
    rw [hg.takeAt]
    refine ⟨_, _, _, rfl, by omega, _, hT, fun W hTW => ?_⟩
    refine (rcarve_any (P.ref_at hTW) P.n0 P.sim.held.fine P.sim.held.Chs hFlt hFl c0 p0).mono ?_
    rintro e w2 (⟨hne2, _⟩ | ⟨_, rfl, hR⟩)
    · exact absurd he2 hne2
    · refine ⟨by rw [hg.at0, hg.gen], P.turn hTW hR (P.sim.on hM hg rfl rfl h1 (by omega) (by omega) c0 (by omega) (by omega) (by omega)) ⟨Grows.on hg.at0 hg.lt _ _ _ _ _, fun e => absurd rfl e, fun _ => ⟨f, k, hg, rfl, rfl, h1, rfl, hg.gen, rfl, rfl⟩⟩⟩
end
end Go.Proofs
end
section
namespace Go.Proofs
open Go.RowKit Go.Shelf
set_option linter.unusedVariables false
set_option linter.unusedSimpArgs false
theorem step_append_ref (w : World) {ops : Array Oper} {o : Oper} {a : Act} {K : Act → World → Prop} {Q : Exit → Act → World → Prop} {E : Prop} (hgd : o.guard = none) (s y : Operand)
    (ho : o.op = .call { callee := .builtin .append, args := #[s, y], argTypes := #[27, 27] })
    {v : Value} {rs : List (Int × Int)} {B : Nat} {i q : Int} (hs : a.eval s = v) (hy : a.eval y = .slice (some ⟨B, 0, none⟩) 1 1) (hr : Row w 34 2 v rs.length (refCells rs)) (hB : Blk w B 34 #[.int .i64 i, .int .u64 q]) (hb : rs.length ≤ 1000)
    (h : ∀ g c' w', Row w' 34 2 (.slice (some ⟨g, 0, none⟩) (rs.length + 1) c') (rs ++ [(i, q)]).length (refCells (rs ++ [(i, q)])) → w.grownBy w' v.ownBlock → (v.ownBlock = some g ∨ g = w.heap.size) → K (a.put o.dst (.slice (some ⟨g, 0, none⟩) (rs.length + 1) c')) w') :
    if Region.wanted o (yielded ops a.tmps) = true then Oper.wp Try.prog o a w K Q else E := by
  have hw : Region.wanted o (yielded ops a.tmps) = true := by simp [Region.wanted, hgd]
  rw [if_pos hw]
  obtain ⟨i0, hi0, hz0, hz1, hz2⟩ := info_parts Try.info_R
  have hcell : ∀ j u, [Value.int .i64 i, .int .u64 q][j]? = some u → w.cell? ((⟨B, 0, none⟩ : Addr).add j) = some u := fun j u hu => by
    have hadd : (⟨B, 0, none⟩ : Addr).add j = ⟨B, j, none⟩ := by unfold Addr.add; split <;> simp_all
    rw [hadd, hB.cell]; simpa using hu
  obtain ⟨gg, cap, w', q1, q2, q3, q4, q5⟩ := run_append_row (P := Try.prog) w 27 o.type 34 i0 (.agg #[.int .i64 0, .int .u64 0]) 2 16 (by kernel_rfl) hi0 hz0 hz1 hz2 rfl v rs.length (refCells rs) hr ⟨B, 0, none⟩ 1 1 [.int .i64 i, .int .u64 q] rfl hcell (by simp [Value.oneCell']) (by omega) (by unfold maxLen; omega) (by omega) w.heap.size rfl
  rw [show refCells rs ++ [Value.int .i64 i, Value.int .u64 q] = refCells (rs ++ [(i, q)]) from (refCells_snoc rs (i, q)).symm] at q2
  unfold Oper.wp execOp
  simp only [ho, resolve, invoke, builtin, Sem.run_bind, Sem.run_pure, Result.andThen_ok, List.map_toArray, List.map_cons, List.map_nil, hs, hy, q1]
  exact h gg cap w' (by simpa using q2) q3 q4
/-- What is known behind a Carve. -/
abbrev CvQ (t : Tab Dm) (r : RTab) (ch : Nat → List (Int × Int)) (i q gs cpu per j p E : Int) : PQ := fun r' ch' => Grows r r' ∧ (E ≠ 0 → r' = r ∧ ch' = ch) ∧ (E = 0 → ∃ f k, Gets t r f ∧ i = ((k : Nat) : Int) ∧ q = (r.pl k).gen ∧ (r.pl k).is = true ∧ j = ((f : Nat) : Int) ∧ p = (r.pl f).gen ∧ r' = r.on i q gs cpu per ∧ ch' = chOn r ch f (ch k))
theorem PTurns.later {Q : PQ} {c h M : Nat} {S S2 : List Nat} {w w1 w2 : World} (H : PTurns Q c S h S2 M w w1) (hc : Chg [] w1 w2) : PTurns Q c S h S2 M w w2 := by
  obtain ⟨S', S2', t', r', ch', P, h1, h2, h3, h4⟩ := H
  exact ⟨S', S2', t', r', ch', P.quiet hc, h1, h2, h3.then hc, h4⟩
theorem PTurns.box {Q : PQ} {c h M : Nat} {S S2 : List Nat} {w w1 w2 : World} (H : PTurns Q c S h S2 M w w1) {B : Nat} {cs : Array Value} (hB : Blk w1 B 34 cs) (hb : w.heap.size ≤ B) (hc : Chg [B] w1 w2) : PTurns Q c S h S2 M w w2 := by
  obtain ⟨S', S2', t', r', ch', P, h1, h2, h3, h4⟩ := H
  have hn := P.dm.ne_ty hB (by decide) (by decide) (by decide) (by decide)
  have hn2 := P.rf.not_box hB (by decide) (by decide) (by decide)
  exact ⟨S', S2', t', r', ch', ⟨P.dm.chg hc (by simp; rintro rfl; exact hn List.mem_cons_self) (fun k hk => by simp; rintro rfl; exact hn (List.mem_cons_of_mem _ hk)), P.rf.chg hc (fun k hk => by simp; rintro rfl; exact hn2 hk), P.sim, P.ap⟩, h1, h2, h3.trans hc (fun k hk => by simp at hk; subst hk; exact .inr hb), h4⟩
theorem Half.box {Q : PQ} {f : Nat} {args : Array Value} {a : Ending} {c h M : Nat} {S S2 : List Nat} {w w1 w2 : World} (H : Half Q f args a c S h S2 M w w1) {B : Nat} {cs : Array Value} (hB : Blk w1 B 34 cs) (hb : w.heap.size ≤ B) (hc : Chg [B] w1 w2) : Half Q f args a c S h S2 M w w2 := by
  obtain ⟨t', ⟨S', h1, h2, h3⟩, h4⟩ := H
  have hn := h1.ne_ty hB (by decide) (by decide) (by decide) (by decide)
  refine ⟨t', ⟨S', h1.chg hc (by simp; rintro rfl; exact hn List.mem_cons_self) (fun k hk => by simp; rintro rfl; exact hn (List.mem_cons_of_mem _ hk)), h2, h3.trans hc (fun k hk => by simp at hk; subst hk; exact .inr hb)⟩, h4⟩
theorem Half.later {Q : PQ} {f : Nat} {args : Array Value} {a : Ending} {c h M : Nat} {S S2 : List Nat} {w w1 w2 : World} (H : Half Q f args a c S h S2 M w w1) (hc : Chg [] w1 w2) : Half Q f args a c S h S2 M w w2 := by
  obtain ⟨t', h1, h2⟩ := H
  exact ⟨t', h1.later hc, h2⟩
section
variable {w : World} {c h M : Nat} {S S2 : List Nat} {t : Tab Dm} {r : RTab} {ch : Nat → List (Int × Int)}
theorem pair_carve2 (P : Pair w c S h S2 M t r ch) (hM : M + 1 ≤ 1000) {i q gs cpu per : Int} (i0 : -9223372036854775808 ≤ i) (i1 : i ≤ 9223372036854775807) (c0 : 0 ≤ cpu) (p0 : 0 ≤ per) {W0 : World} (hW0 : Chg [] w W0) :
    Calls Try.prog 34 #[ptr c, .agg #[.int .i64 i, .int .u64 q], .int .i64 gs, .int .u64 cpu, .int .u64 per] W0 fun e w1 => ∃ j p E, e = refAns j p E ∧ (0 ≤ j ∧ j ≤ 4096) ∧ Chg S W0 w1 ∧ Half (CvQ t r ch i q gs cpu per j p E) 35 #[ptr h, .agg #[.int .i64 i, .int .u64 q], .int .i64 gs, .int .u64 cpu, .int .u64 per] (refAns j p E) c S h S2 M w w1 := by
  have hsame := carve_same P i q gs cpu per
  have hFl : r.F.length ≤ 1000 := by
    have := frees_len P.sim
    unfold Tab.frees at this
    have h1 := P.sim.held.n1
    have h2 := P.sim.size
    have h3 : t.freed.length ≤ t.spots.length := by
      have hnd := P.dm.wf.nodup
      have hlt : ∀ x ∈ t.freed, x < t.spots.length := fun x hx => by obtain ⟨s, hs, _⟩ := P.dm.wf.free x hx; exact (List.getElem?_eq_some_iff.1 hs).1
      exact nodup_len hnd hlt
    have h4 := P.sim.lenle
    omega
  have hFlt : ∀ f ∈ r.F, f < r.L.length := by
    intro f hf
    rw [P.sim.free] at hf
    have h0 := P.sim.held.n0
    rcases List.mem_append.1 hf with hf | hf
    · unfold newF at hf; simp at hf; obtain ⟨a, _, rfl⟩ := hf; omega
    · obtain ⟨s, hs, _⟩ := P.dm.wf.free f hf
      have := (List.getElem?_eq_some_iff.1 hs).1
      have := P.sim.lenle; omega
  refine (Carve_any (P.dm.quiet hW0) P.sim.oks i0 i1 c0 p0).mono ?_
  rintro e w1 (⟨hne, rfl, hD, hc⟩ | ⟨he, rfl, hT⟩)
  · refine ⟨_, _, _, rfl, by omega, hc.any, t, ⟨S, hD, fun k hk => .inl hk, (hW0.then hc).any⟩, fun W hTW => ?_⟩
    refine (rcarve_any (P.ref_at hTW) P.n0 P.sim.held.fine P.sim.held.Chs hFlt hFl c0 p0).mono ?_
    rintro e w2 (⟨hne2, rfl, hc2⟩ | ⟨he2, _⟩)
    · exact ⟨by rw [hsame], P.stay hM hTW (RTurns.refl (P.ref_at hTW) hc2) ⟨Grows.refl r, fun _ => ⟨rfl, rfl⟩, fun e => absurd e hne⟩⟩
    · rw [hsame] at he2; exact absurd he2 hne
  · have he2 := hsame.trans he
    have hparts : mayD gs cpu per = true ∧ r.is i q = true ∧ r.F ≠ [] ∧ ¬ ((r.get ch i q).gs < gs + (r.get ch i q).cgs + (r.get ch i q).own ∨ (r.get ch i q).cpu < cpu + (r.get ch i q).car) := by
      unfold rcarveE at he2
      cases hm : mayD gs cpu per with
      | false => rw [hm] at he2; simp at he2
      | true =>
        rw [hm] at he2
        cases hq : r.is i q with
        | false => rw [hq] at he2; simp at he2
        | true =>
          rw [hq] at he2
          simp only [if_true] at he2
          by_cases hb : ((r.get ch i q).gs < gs + (r.get ch i q).cgs + (r.get ch i q).own ∨ (r.get ch i q).cpu < cpu + (r.get ch i q).car)
          · rw [if_pos hb] at he2; simp at he2
          · rw [if_neg hb] at he2
            refine ⟨rfl, rfl, fun e => ?_, hb⟩
            rw [if_pos e] at he2; simp at he2
    obtain ⟨hm, hq, hF, hb⟩ := hparts
    obtain ⟨f, hg⟩ := P.sim.gets hF
    obtain ⟨k, rfl, hk, h1, rfl⟩ := is_pl.1 hq
    have e1 : (r.get ch (k : Nat) (r.pl k).gen).gs = (r.pl k).gs ∧ (r.get ch (k : Nat) (r.pl k).gen).own = (r.pl k).own ∧ (r.get ch (k : Nat) (r.pl k).gen).cgs = r.cgs (k : Nat) (r.pl k).gen ∧ (r.get ch (k : Nat) (r.pl k).gen).cpu = (r.pl k).cpu ∧ (r.get ch (k : Nat) (r.pl k).gen).car = r.car (k : Nat) (r.pl k).gen := by unfold RTab.get; simp
    rw [e1.1, e1.2.1, e1.2.2.1, e1.2.2.2.1, e1.2.2.2.2] at hb
    unfold mayD at hm
    simp at hm
    have hfl := hg.lt
    have hn1 := P.sim.held.n1
    rw [hg.takeAt]
    refine ⟨_, _, _, rfl, by omega, (by obtain ⟨_, _, _, h3⟩ := hT; exact h3), _, hT.earlier hW0, fun W hTW => ?_⟩
    refine (rcarve_any (P.ref_at hTW) P.n0 P.sim.held.fine P.sim.held.Chs hFlt hFl c0 p0).mono ?_
    rintro e w2 (⟨hne2, _⟩ | ⟨_, rfl, hR⟩)
    · exact absurd he2 hne2
    · refine ⟨by rw [hg.at0, hg.gen], P.turn hTW hR (P.sim.on hM hg rfl rfl h1 (by omega) (by omega) c0 (by omega) (by omega) (by omega)) ⟨Grows.on hg.at0 hg.lt _ _ _ _ _, fun e => absurd rfl e, fun _ => ⟨f, k, hg, rfl, rfl, h1, rfl, hg.gen, rfl, rfl⟩⟩⟩
end
end Go.Proofs
end
section
namespace Go.Proofs
open Go.RowKit Go.Shelf
set_option linter.unusedVariables false
set_option linter.unusedSimpArgs false

/-- What is left of a place. -/
def Pl.left (p : Pl) : Int := subS p.cpu p.used
def tellR (r : RTab) : Int × Int → Option Int := fun x => if r.is x.1 x.2 = true then some (r.pl x.1.toNat).left else none
def leftR (r : RTab) (L : List (Int × Int)) : Int := (minF (tellR r) L).getD 0
/-- One tick more is used of it. -/
def RTab.useK (r : RTab) (k : Nat) : RTab := r.set1 k (r.pl k).own (addS (r.pl k).used 1)
def useR (L : List (Int × Int)) (r : RTab) : RTab := L.foldl (fun r x => r.useK x.1.toNat) r
def chargeR (L : List (Int × Int)) (r : RTab) : RTab := if 0 < leftR r L then useR L r else r
theorem useR_nil (r : RTab) : useR [] r = r := rfl
theorem useR_snoc (L : List (Int × Int)) (x : Int × Int) (r : RTab) : useR (L ++ [x]) r = (useR L r).useK x.1.toNat := by unfold useR; rw [List.foldl_append]; rfl
/-- What both have that differ in what is used alone. -/
structure Like (r r' : RTab) : Prop where
  len : r'.L.length = r.L.length
  free : r'.F = r.F
  gen : ∀ j, (r'.pl j).gen = (r.pl j).gen
  is : ∀ j, (r'.pl j).is = (r.pl j).is
  cpu : ∀ j, (r'.pl j).cpu = (r.pl j).cpu
  per : ∀ j, (r'.pl j).per = (r.pl j).per
  par : r'.par = r.par
  isq : ∀ a b, r'.is a b = r.is a b
theorem Like.refl (r : RTab) : Like r r := ⟨rfl, rfl, fun _ => rfl, fun _ => rfl, fun _ => rfl, fun _ => rfl, rfl, fun _ _ => rfl⟩
theorem Like.trans {a b c : RTab} (h : Like a b) (k : Like b c) : Like a c :=
  ⟨k.len.trans h.len, k.free.trans h.free, fun j => (k.gen j).trans (h.gen j), fun j => (k.is j).trans (h.is j), fun j => (k.cpu j).trans (h.cpu j), fun j => (k.per j).trans (h.per j), k.par.trans h.par, fun a b => (k.isq a b).trans (h.isq a b)⟩
theorem Like.set1 {r : RTab} {k : Nat} (hk : k < r.L.length) (o u : Int) : Like r (r.set1 k o u) :=
  ⟨set1_len, rfl, fun j => (set1_same hk j).1, fun j => (set1_same hk j).2.1, fun j => (set1_same hk j).2.2.2.1, fun j => (set1_same hk j).2.2.2.2.1, set1_par hk, set1_is hk⟩
theorem tellR_bd {M : Nat} {r : RTab} {ch : Nat → List (Int × Int)} (h : r.Held M ch) {k : Nat} (hk : k < r.L.length) : 0 ≤ (r.pl k).left ∧ (r.pl k).left ≤ 4294967296 := by
  obtain ⟨_, _, c, d, _⟩ := h.nums k hk
  unfold Pl.left subS; split <;> omega
theorem Sim.tell {M : Nat} {t : Tab Dm} {r : RTab} {ch : Nat → List (Int × Int)} (h : Sim M t r ch) : tellL t = tellR r := by
  funext x
  unfold tellL tellR
  rw [h.has]
  cases hq : r.is x.1 x.2 with
  | false => rfl
  | true => rw [h.at_ hq]; rfl
theorem Sim.leftR {M : Nat} {t : Tab Dm} {r : RTab} {ch : Nat → List (Int × Int)} (h : Sim M t r ch) (L : List (Int × Int)) : leftT t L = leftR r L := by
  unfold leftT Go.Proofs.leftR; rw [h.tell]
/-- Each one of a chain is there. -/
theorem Up.there {r : RTab} {i q : Int} {L : List (Int × Int)} (h : Up r.par i q L) : ∀ x ∈ L, ∃ k : Nat, x = (((k : Nat) : Int), (r.pl k).gen) ∧ k < r.L.length ∧ (r.pl k).is = true := by
  induction h with
  | stop h => intro x hx; cases hx
  | step h hu ih =>
    intro x hx
    rcases List.mem_cons.1 hx with rfl | hx
    · obtain ⟨k, rfl, hk, h1, rfl, _⟩ := par_pl.1 h
      exact ⟨k, rfl, hk, h1⟩
    · exact ih x hx
/-- One tick more is used, in both. -/
theorem Sim.useK {M : Nat} {t : Tab Dm} {r : RTab} {ch : Nat → List (Int × Int)} (h : Sim M t r ch) {k : Nat} (hk : (r.pl k).is = true) : Sim M (t.upd (k : Nat) (r.pl k).gen (fun x => { x with used := addS x.used 1 })) (r.useK k) ch := by
  have hnum := (h.held.nums k (is_lt hk)).2.2.2.1
  refine h.usedTo hk _ _ (fun x hx => by rw [hx]) ?_ ?_
  · unfold addS; split <;> omega
  · unfold addS; split <;> omega
theorem useR_like {M : Nat} {r : RTab} {ch : Nat → List (Int × Int)} (L : List (Int × Int)) : (∀ x ∈ L, x.1.toNat < r.L.length) → Like r (useR L r) := by
  refine snoc_rec (P := fun L => (∀ x ∈ L, x.1.toNat < r.L.length) → Like r (useR L r)) (fun _ => Like.refl r) (fun L x ih h => ?_) L
  rw [useR_snoc]
  have := ih (fun y hy => h y (List.mem_append_left _ hy))
  exact this.trans (Like.set1 (by rw [this.len]; exact h x (List.mem_append_right _ (List.mem_singleton.2 rfl))) _ _)
end Go.Proofs
end
section
namespace Go.Proofs
open Go.RowKit Go.Shelf
set_option linter.unusedVariables false
set_option linter.unusedSimpArgs false

/-- The code's table is as the document's, which is this one; nothing else has turned. -/
def CTurns (c : Nat) (S : List Nat) (M : Nat) (r' : RTab) (ch : Nat → List (Int × Int)) (w w' : World) : Prop :=
  ∃ t', DomAt w' c S t' ∧ Sim M t' r' ch ∧ Chg S w w'
set_option maxHeartbeats 1600000 in
set_option maxRecDepth 100000 in
theorem Charge_any {w : World} {c M : Nat} {S : List Nat} {t : Tab Dm} {r : RTab} {ch : Nat → List (Int × Int)} (h : DomAt w c S t) (sm : Sim M t r ch) {i q : Int} {L : List (Int × Int)} (hU : Up r.par i q L) (hL : L.length ≤ 1000) (i0 : -9223372036854775808 ≤ i) (i1 : i ≤ 9223372036854775807) :
    Calls Try.prog 10 #[ptr c, .agg #[.int .i64 i, .int .u64 q]] w fun e w' => e = .returned (.bool (decide (0 < leftR r L))) ∧ CTurns c S M (chargeR L r) ch w w' := by
  have hUt : Up t.par i q L := by rw [sm.par]; exact hU
  have HCAN := Lib.hid (fun W (hW : Chg [] w W) => Can_any (h.quiet hW) sm.oks hUt hL i0 i1)
  rw [sm.leftR] at HCAN
  have HCH := Lib.hid (fun W (hW : Chg [] w W) => Chain_any (h.quiet hW) hUt sm.oks.fit (by omega) i0 i1)
  have HTH := Lib.hid hU.there
  have HD := Lib.hid h
  have HS := Lib.hid sm
  have HUSE := Lib.hid (fun W (t' : Tab Dm) (r' : RTab) (k : Nat) (g : Int) (hd : DomAt W c S t') (hs : Sim M t' r' ch) (hk : (r'.pl k).is = true) (hg : (r'.pl k).gen = g) (hl : k ≤ 4096) => Use_any hd hs.oks (i := (k : Nat)) (q := g) (by omega) (by omega) 1 (by omega) (by omega))
  have lS : ∀ k ∈ S, k < w.heap.size := fun k hk => h.lt k (List.mem_cons_of_mem _ hk)
  have HLS := Lib.hid lS
  have hn1 := sm.held.n1
  unfold chargeR
  clear h sm hU hUt lS
  by_cases hp : 0 < leftR r L
  · have hd : decide (0 < leftR r L) = true := decide_eq_true hp
    rw [if_pos hp, hd]
    rw [hd] at HCAN
    clear hd hp
    obtain ⟨n, hn⟩ : ∃ n, n = L.length := ⟨_, rfl⟩
    rw [← hn] at HCH hL
    have HN := Lib.hid hn
    clear hn
    go_enter Try.func10, Try.ntmps10
    go_wp2_with (first
      | (go_at_call 23; refine (HCAN.out _ ((Chg.refl _ _).alloc _)).mono ?_; rintro e w1 ⟨rfl, hc⟩; have HC1 := Lib.hid (((Chg.refl [] w).alloc _).then hc); have hb := ((Blk.new w 34 #[.int .i64 i, .int .u64 q]).chg hc (by simp)); have b0 := hb.cell 0; have b1 := hb.cell 1; have lb := hb.lt; clear hc hb)
      | (go_at_call 28; refine (HCH.out _ HC1.out).mono ?_; rintro e w2 ⟨V, rfl, hr, hf, hc⟩; obtain ⟨A, cc, rfl, _⟩ := hr.val; have HR := Lib.hid hr; have HF := Lib.hid hf; have HC2 := Lib.hid (HC1.out.then hc); clear hr hf hc))
    go_loopg [15] n (fun gh iv wr => ∃ j : Nat, j + gh = n ∧ iv = .int .i64 j ∧ Hid (Chg S w2 wr ∧ CTurns c S M (useR (L.take j) r) ch w wr ∧ Like r (useR (L.take j) r)))
    case atStart => exact ⟨0, by omega, rfl, Lib.hid ⟨Chg.refl _ _, ⟨t, HD.out.quiet HC2.out, HS.out, HC2.out.any⟩, Like.refl r⟩⟩
    case round =>
      obtain ⟨j, hj, rfl, HH⟩ := hrel
      obtain ⟨hc, hT, hlk⟩ := HH.out
      by_cases hlt : j < n
      · have j0 : (0 : Int) ≤ (j : Int) := by omega
        have j1 : (j : Int) < (n : Int) := by omega
        obtain ⟨x, hx⟩ : ∃ x, L[j]? = some x := ⟨_, List.getElem?_eq_getElem (by rw [← HN.out]; exact hlt)⟩
        obtain ⟨gr, cr, hv, hfo, _, hcell, _, lgr2⟩ := HR.out.form (by omega)
        have hgS : gr ∉ S := fun hm => by
          have := HLS.out gr hm
          have := HF.out gr (by rw [hfo]; simp)
          omega
        simp only [Value.slice.injEq] at hv
        obtain ⟨rfl, h91, h92⟩ := hv
        clear h91 h92
        obtain ⟨x0, x1⟩ := refCells_at hx
        have y0 := (hc.cell (p := ⟨gr, j * 2, none⟩) lgr2 hgS).trans (hcell _ _ x0)
        have y1 := (hc.cell (p := ⟨gr, j * 2 + 1, none⟩) lgr2 hgS).trans (hcell _ _ x1)
        obtain ⟨k, rfl, hk, hki⟩ := HTH.out x (List.mem_of_getElem? hx)
        obtain ⟨t', hd, hs, hcw⟩ := hT
        have HUS := Lib.hid (fun W (hW : Chg [] wr W) => HUSE.out W t' _ k (r.pl k).gen (hd.quiet hW) hs (by rw [hlk.is]; exact hki) (hlk.gen k) (by omega))
        have HNX := Lib.hid (show Sim M (t'.upd (k : Nat) (r.pl k).gen (fun x => { x with used := addS x.used 1 })) (useR (L.take (j + 1)) r) ch ∧ Like r (useR (L.take (j + 1)) r) by
          rw [take_more hx, useR_snoc, Int.toNat_natCast]
          have := hs.useK (k := k) (by rw [hlk.is]; exact hki)
          rw [hlk.gen] at this
          exact ⟨this, hlk.trans (Like.set1 (by rw [hlk.len]; exact hk) _ _)⟩)
        obtain ⟨g, hg⟩ : ∃ g, g = (r.pl k).gen := ⟨_, rfl⟩
        simp only at y0 y1
        rw [← hg] at HUS HNX y1
        obtain ⟨t2, ht2⟩ : ∃ t2, t2 = t'.upd (k : Nat) g (fun x => { x with used := addS x.used 1 }) := ⟨_, rfl⟩
        rw [← ht2] at HUS HNX
        have HCW := Lib.hid hcw
        have HC3 := Lib.hid hc
        clear hx hcell x0 x1 hc HH hlk hd hs hcw hg ht2 hgS hfo HTH
        go_wp2_with (first
          | (go_at_call 12; refine (HUS.out _ ((Chg.refl _ _).alloc _)).mono ?_; rintro e w3 ⟨rfl, hd3, hc3⟩; have HD3 := Lib.hid hd3; have HC4 := Lib.hid ((((Chg.refl [] wr).alloc _).any (S := S)).trans hc3 (fun k hk => .inl hk)); clear hd3 hc3))
        go_roundg (n - j - 1)
        case measure => omega
        case rel => exact ⟨j + 1, by omega, by go_num, Lib.hid ⟨HC3.out.trans HC4.out (fun k hk => .inl hk), ⟨t2, HD3.out, HNX.out.1, HCW.out.trans HC4.out (fun k hk => .inl hk)⟩, HNX.out.2⟩⟩
      · obtain rfl : n = j := by omega
        rw [HN.out, List.take_length] at hT
        have HT := Lib.hid hT
        clear hc HH hT hlk
        go_wp2
        go_ret
        exact ⟨rfl, HT.out⟩
  · have hd : decide (0 < leftR r L) = false := decide_eq_false hp
    rw [if_neg hp, hd]
    rw [hd] at HCAN
    clear hd hp
    go_enter Try.func10, Try.ntmps10
    go_wp2_with (first
      | (go_at_call 23; refine (HCAN.out _ ((Chg.refl _ _).alloc _)).mono ?_; rintro e w1 ⟨rfl, hc⟩; have HC1 := Lib.hid (((Chg.refl [] w).alloc _).then hc); clear hc))
    go_ret
    exact ⟨rfl, t, HD.out.quiet HC1.out, HS.out, HC1.out.any⟩
end Go.Proofs
end
section
namespace Go.Proofs
open Go.RowKit Go.Shelf
set_option linter.unusedVariables false
set_option linter.unusedSimpArgs false

/-- The first one of which nothing is left, and is there one? -/
def tightO (r : RTab) (L : List (Int × Int)) : Option (Int × Int) := L.find? (fun x => decide ((r.pl x.1.toNat).left = 0))
abbrev tightAns (o : Option (Int × Int)) : Ending := .returned (.tuple #[.agg #[.int .i64 (o.getD (0, 0)).1, .int .u64 (o.getD (0, 0)).2], .bool o.isSome])
theorem tightO_no {r : RTab} {L : List (Int × Int)} (h : ∀ x ∈ L, ¬ (r.pl x.1.toNat).left = 0) : tightO r L = none := by
  unfold tightO; rw [List.find?_eq_none]; intro x hx; simpa using h x hx
theorem tightO_yes {r : RTab} {pre rest : List (Int × Int)} {x : Int × Int} (h : ∀ x ∈ pre, ¬ (r.pl x.1.toNat).left = 0) (hx : (r.pl x.1.toNat).left = 0) : tightO r (pre ++ x :: rest) = some x := by
  unfold tightO
  rw [List.find?_append, List.find?_eq_none.2 (fun y hy => by simpa using h y hy), List.find?_cons_of_pos (by simpa using hx)]; rfl
set_option maxHeartbeats 1600000 in
set_option maxRecDepth 100000 in
theorem Tight_any {w : World} {c M : Nat} {S : List Nat} {t : Tab Dm} {r : RTab} {ch : Nat → List (Int × Int)} (h : DomAt w c S t) (sm : Sim M t r ch) {i q : Int} {L : List (Int × Int)} (hU : Up r.par i q L) (i0 : -9223372036854775808 ≤ i) (i1 : i ≤ 9223372036854775807) :
    Calls Try.prog 18 #[ptr c, .agg #[.int .i64 i, .int .u64 q]] w fun e w' => e = tightAns (tightO r L) ∧ Chg [] w w' := by
  have HG := Lib.hid (fun W (hW : Chg [] w W) (a b : Int) (a0 : -9223372036854775808 ≤ a) (a1 : a ≤ 9223372036854775807) => Get_any (h.quiet hW) a b a0 a1)
  have HLF := Lib.hid (fun W a b => left_any W (t.at_ a b) (sm.oks.ok a b).sm)
  have HSM := Lib.hid sm
  have HU := Lib.hid hU
  have HFIT := Lib.hid (show Fit r.par by rw [← sm.par]; exact sm.oks.fit)
  clear h sm hU
  go_enter Try.func18, Try.ntmps18
  go_wp2
  go_step3
  go_wp2
  go_step3
  go_wp2
  go_loopg [5, 6] L.length (fun gh v5 v6 wr => ∃ (pre rest : List (Int × Int)) (a b : Int) (B : Nat), gh = rest.length ∧ v5 = .bool false ∧ v6 = ptr B ∧ Hid (L = pre ++ rest ∧ Up r.par a b rest ∧ (-9223372036854775808 ≤ a ∧ a ≤ 9223372036854775807) ∧ (∀ x ∈ pre, ¬ (r.pl x.1.toNat).left = 0) ∧ Chg [] w wr) ∧ Hid (Blk wr (w.heap.size + 1) 34 #[.int .i64 0, .int .u64 0] ∧ Blk wr B 34 #[.int .i64 a, .int .u64 b] ∧ w.heap.size + 2 ≤ B))
  case atStart =>
    refine ⟨[], L, i, q, w.heap.size + 1 + 1, rfl, rfl, by simp, Lib.hid ⟨rfl, HU.out, ⟨i0, i1⟩, (fun x hx => by cases hx), (((Chg.refl [] w).alloc _).alloc _).alloc _⟩, Lib.hid ⟨?_, ?_, by omega⟩⟩
    · exact (Blk.at' _ 34 _ (by simp)).alloc _
    · exact Blk.at' _ 34 _ (by simp)
  case round =>
    obtain ⟨pre, rest, a, b, B, hgk, rfl, rfl, HH, HB⟩ := hrel
    obtain ⟨hpr, hu, ha, hno, hc⟩ := HH.out
    obtain ⟨hz, hb, hB⟩ := HB.out
    have HGX := Lib.hid (fun W (hW : Chg [] wr W) => HG.out W (hc.then hW) a b ha.1 ha.2)
    have HC := Lib.hid hc
    have b0 := hb.cell 0
    have b1 := hb.cell 1
    have lb := hb.lt
    have bf := hb.frozen
    have z0 := hz.cell 0
    have z1 := hz.cell 1
    have lz := hz.lt
    have zf := hz.frozen
    cases rest with
    | nil =>
      have hst : staleE t a b = 11 := by
        unfold staleE
        rw [HSM.out.has, rpar_none.1 (Up.nil hu)]; rfl
      rw [hst] at HGX
      obtain ⟨x, hx⟩ : ∃ x, x = t.at_ a b := ⟨_, rfl⟩
      rw [← hx] at HGX
      have HN := Lib.hid (tightO_no (r := r) (L := L) (by rw [hpr, List.append_nil]; exact hno))
      clear hx hst hpr hu hno hc hz hb HH
      go_wp2_with (first
        | (go_at_call 27; refine (HGX.out _ (Chg.refl _ _)).mono ?_; rintro e w1 ⟨rfl, hc1⟩; have HC1 := Lib.hid hc1; have hz1 := HB.out.1.chg hc1 (by simp); have z0 := hz1.cell 0; have z1 := hz1.cell 1; have lz := hz1.lt; have zf := hz1.frozen; clear hc1 hz1))
      rw [Exit.noGoto_ret]
      refine bodyPost_ret (v := .tuple #[.agg #[.int .i64 0, .int .u64 0], .bool false]) ?_ rfl ⟨by rw [HN.out]; rfl, ?_⟩
      · simp [results, Try.results18, go_sem, z0, z1, lz, zf]
      · repeat' (first | with_reducible exact HC.out.then HC1.out | with_reducible exact HC2.out | with_reducible apply Chg.alloc | with_reducible apply Chg.setCell | (with_reducible refine Or.inr ?_; dsimp only; omega))
    | cons y rest =>
      obtain ⟨rfl, a', b', hpar, hu'⟩ := Up.cons hu
      have hf' := HFIT.out _ _ _ _ hpar
      obtain ⟨k, rfl, hk, h1, rfl, rfl, rfl⟩ := par_pl.1 hpar
      have hist := is_pl.2 ⟨k, rfl, hk, h1, rfl⟩
      have hst : staleE t (k : Nat) (r.pl k).gen = 0 := by
        unfold staleE
        rw [HSM.out.has, hist]; rfl
      have hat := HSM.out.at_ hist
      have hxl : (t.at_ (k : Nat) (r.pl k).gen).left = (r.pl k).left := by rw [hat]; rfl
      have hxp : (t.at_ (k : Nat) (r.pl k).gen).pi = (r.pl k).pi ∧ (t.at_ (k : Nat) (r.pl k).gen).pg = (r.pl k).pg := by rw [hat]; exact ⟨rfl, rfl⟩
      have HLX := Lib.hid (fun W => HLF.out W (k : Nat) (r.pl k).gen)
      rw [hst] at HGX
      obtain ⟨x, hx⟩ : ∃ x, x = t.at_ (k : Nat) (r.pl k).gen := ⟨_, rfl⟩
      rw [← hx] at HGX HLX hxl hxp
      rw [hxl] at HLX
      obtain ⟨g, hg⟩ : ∃ g, g = (r.pl k).gen := ⟨_, rfl⟩
      obtain ⟨lf, hlf⟩ : ∃ lf, lf = (r.pl k).left := ⟨_, rfl⟩
      have HXP := Lib.hid hxp
      by_cases hz0 : lf = 0
      · have HN := Lib.hid (show tightO r L = some (((k : Nat) : Int), g) by rw [hpr, ← hg]; exact tightO_yes hno (by rw [Int.toNat_natCast, ← hlf]; exact hz0))
        rw [← hlf, hz0] at HLX
        rw [← hg] at HGX b1 HB
        clear hx hst hpr hu hu' hno hc hz hb HH hpar hf' hist hat hxl hxp hg hlf hz0
        go_wp2_with (first
          | (go_at_call 27; refine (HGX.out _ (Chg.refl _ _)).mono ?_; rintro e w1 ⟨rfl, hc1⟩; have HC1 := Lib.hid hc1; clear hc1)
          | (go_at_call 44; refine (HLX.out _).mono ?_; rintro e w2 ⟨rfl, hc2⟩; have HC2 := Lib.hid (HC.out.then ((HC1.out.alloc (obX x)).then hc2)); have hz1 := (HB.out.1.chg (HC1.out.alloc (obX x)) (by simp)).chg hc2 (by simp); have z0 := hz1.cell 0; have z1 := hz1.cell 1; have lz := hz1.lt; have zf := hz1.frozen; have HZ := Lib.hid hz1; have hb1 := (HB.out.2.1.chg (HC1.out.alloc (obX x)) (by simp)).chg hc2 (by simp); have b0 := hb1.cell 0; have b1 := hb1.cell 1; have lb := hb1.lt; clear hc2 hz1 hb1))
        rw [Exit.noGoto_ret]
        refine bodyPost_ret (v := .tuple #[.agg #[.int .i64 (k : Nat), .int .u64 g], .bool true]) ?_ rfl ⟨by rw [HN.out]; rfl, ?_⟩
        · have hZ := (((HZ.out.set_ 0 (.int .i64 (k : Nat))).set_ 1 (.int .u64 g)).set_ 0 (.int .i64 (k : Nat))).set_ 1 (.int .u64 g)
          generalize ((((w2.setCell ⟨w.heap.size + 1, 0, none⟩ (.int .i64 (k : Nat))).setCell ⟨w.heap.size + 1, 1, none⟩ (.int .u64 g)).setCell ⟨w.heap.size + 1, 0, none⟩ (.int .i64 (k : Nat))).setCell ⟨w.heap.size + 1, 1, none⟩ (.int .u64 g)) = W4 at hZ ⊢
          have y0 := hZ.cell 0
          have y1 := hZ.cell 1
          simp at y0 y1
          simp [results, Try.results18, go_sem, y0, y1]
        · repeat' (first | with_reducible exact HC.out.then HC1.out | with_reducible exact HC2.out | with_reducible apply Chg.alloc | with_reducible apply Chg.setCell | (with_reducible refine Or.inr ?_; dsimp only; omega))
      · have HNO := Lib.hid (show ∀ x ∈ pre ++ [(((k : Nat) : Int), (r.pl k).gen)], ¬ (r.pl x.1.toNat).left = 0 from fun x hx => by
          rcases List.mem_append.1 hx with hx | hx
          · exact hno x hx
          · rw [List.mem_singleton] at hx; rw [hx, Int.toNat_natCast, ← hlf]; exact hz0)
        have HPR := Lib.hid (show L = (pre ++ [(((k : Nat) : Int), (r.pl k).gen)]) ++ rest by rw [hpr]; simp)
        have HUP := Lib.hid hu'
        have HF' := Lib.hid hf'
        rw [← hlf] at HLX
        rw [← hg] at HGX b1 HB HNO HPR
        have e1 : (lf == 0) = false := by simpa using hz0
        clear hx hst hpr hu hu' hno hc hz hb HH hpar hf' hist hat hxl hxp hg hlf hz0
        go_wp2_with (first
          | (go_at_call 27; refine (HGX.out _ (Chg.refl _ _)).mono ?_; rintro e w1 ⟨rfl, hc1⟩; have HC1 := Lib.hid hc1; clear hc1)
          | (go_at_call 44; refine (HLX.out _).mono ?_; rintro e w2 ⟨rfl, hc2⟩; have HX2 := (Blk.new w1 59 x.arr).chg hc2 (by simp); obtain ⟨l2, k0, k1, k2, k3, k4, k5, k6, k7, k8, k9, k10, kf⟩ := x_facts HX2; have HC2 := Lib.hid (HC.out.then ((HC1.out.alloc (obX x)).then hc2)); have hz1 := (HB.out.1.chg (HC1.out.alloc (obX x)) (by simp)).chg hc2 (by simp); have HZ1 := Lib.hid hz1; have hb1 := (HB.out.2.1.chg (HC1.out.alloc (obX x)) (by simp)).chg hc2 (by simp); have b0 := hb1.cell 0; have b1 := hb1.cell 1; have lb := hb1.lt; have bf := hb1.frozen; clear hc2 hz1 hb1 HX2))
        go_roundg rest.length
        case measure => rw [hgk]; simp
        case rel =>
          refine ⟨pre ++ [(((k : Nat) : Int), g)], rest, x.pi, x.pg, w2.heap.size, rfl, rfl, rfl, Lib.hid ⟨HPR.out, by rw [HXP.out.1, HXP.out.2]; exact HUP.out, by rw [HXP.out.1]; exact HF'.out, HNO.out, ?_⟩, Lib.hid ⟨?_, ?_, by omega⟩⟩
          · repeat' (first | with_reducible exact HC2.out | with_reducible apply Chg.alloc | with_reducible apply Chg.setCell | (with_reducible refine Or.inr ?_; dsimp only; omega))
          · exact ((HZ1.out.far (p := ⟨B, 0, none⟩) (by simp; omega) _).far (p := ⟨B, 1, none⟩) (by simp; omega) _).alloc _
          · exact Blk.at' _ 34 _ (by simp)
end Go.Proofs
end
section
namespace Go.Proofs
open Go.RowKit Go.Shelf
set_option linter.unusedVariables false
set_option linter.unusedSimpArgs false
def addF (x y : Int) : Bool := decide (x + y < 18446744073709551616)
theorem exact_number (a b : Value) (n : Int) (w : World) :
    Calls Try.prog 106 #[.agg #[a, b], .int .u64 n] w fun e w' => e = .returned (.agg #[.int .u64 n, .bool true]) ∧ Below w.heap.size w w' := by
  go_enter Try.func106, Try.ntmps106
  go_wp2
  simp [bodyPost, results, Try.results106, go_sem]
  exact (((Below.refl _ _).alloc (Nat.le_refl _) _).alloc (by simp) _)

theorem exact_nearest (a b : Value) (n : Int) (w : World) :
    Calls Try.prog 105 #[.agg #[a, b], .int .u64 n] w fun e w' => e = .returned (.agg #[.int .u64 0, .bool false]) ∧ Below w.heap.size w w' := by
  go_enter Try.func105, Try.ntmps105
  go_wp2
  simp [bodyPost, results, Try.results105, go_sem]
  exact (((Below.refl _ _).alloc (Nat.le_refl _) _).alloc (by simp) _)

theorem mx106 (w : World) : (method 263 125 (.agg #[.int .u64 0, .bool false]) "helmsman/num.number").run Try.prog w = .ok (106, .agg #[.int .u64 0, .bool false]) w := by kernel_rfl
theorem mx105 (w : World) : (method 263 125 (.agg #[.int .u64 0, .bool false]) "helmsman/num.nearest").run Try.prog w = .ok (105, .agg #[.int .u64 0, .bool false]) w := by kernel_rfl
theorem bcell {W w1 : World} (hb : Below W.heap.size W w1) : (∀ b o, b < W.heap.size → w1.cell? ⟨b, o, none⟩ = W.cell? ⟨b, o, none⟩) ∧ (∀ b o, b < W.heap.size → w1.frozen? ⟨b, o, none⟩ = W.frozen? ⟨b, o, none⟩) :=
  ⟨fun b o h => hb.cell (p := ⟨b, o, none⟩) h, fun b o h => hb.frozen (p := ⟨b, o, none⟩) h⟩

set_option maxHeartbeats 1000000 in
theorem sum_exact_fits (x y : Int) (hx : 0 ≤ x) (hy : 0 ≤ y) (hx1 : x < 18446744073709551616) (hy1 : y < 18446744073709551616) (h : x + y < 18446744073709551616) (w : World) :
    Calls Try.prog 71 #[.int .u64 x, .int .u64 y] w fun e w' => e = .returned (.agg #[.int .u64 (addN x y), .bool true]) ∧ Below w.heap.size w w' := by
  have hm := mx106
  have hA := add64_fits x y hx hy h
  clear h
  go_enter Try.func71, Try.ntmps71
  go_wp2_with (first | (go_at_call 106; refine (exact_number _ _ _ _).mono ?_; rintro e w' ⟨rfl, hb⟩; obtain ⟨hc, hf⟩ := bcell hb; simp only [World.size_alloc] at hc hf hb))
  have hz : w.heap.size + 1 < w'.heap.size := by have := hb.size; simp at this; omega
  have q0 : w'.cell? ⟨w.heap.size, 0, none⟩ = some (.int .u64 0) := by rw [hc _ _ (by omega)]; simp [go_sem]
  have q1 : w'.cell? ⟨w.heap.size, 1, none⟩ = some (.bool false) := by rw [hc _ _ (by omega)]; simp [go_sem]
  have c0 := World.cell?_setCell_same' w' ⟨w.heap.size, 0, none⟩ (.int .u64 (addN x y)) (by rw [q0]; rfl)
  have c1 := World.cell?_setCell_same' (w'.setCell ⟨w.heap.size, 0, none⟩ (.int .u64 (addN x y))) ⟨w.heap.size, 1, none⟩ (.bool true) (by simp [go_sem, q1])
  simp [bodyPost, results, Try.results71, go_sem, c0, c1, Result.andThen]
  exact ((((Below.refl _ _).alloc (Nat.le_refl _) _).alloc (by simp) _).trans (hb.mono (by omega))).setCell (Nat.le_refl _) _ |>.setCell (Nat.le_refl _) _

set_option maxHeartbeats 1000000 in
theorem sum_exact_over (x y : Int) (hx : 0 ≤ x) (hy : 0 ≤ y) (hx1 : x < 18446744073709551616) (hy1 : y < 18446744073709551616) (h : ¬ x + y < 18446744073709551616) (w : World) :
    Calls Try.prog 71 #[.int .u64 x, .int .u64 y] w fun e w' => e = .returned (.agg #[.int .u64 (0), .bool false]) ∧ Below w.heap.size w w' := by
  have hm := mx105
  have hA := add64_over x y hx hy hx1 hy1 h
  clear h
  go_enter Try.func71, Try.ntmps71
  go_wp2_with (first | (go_at_call 105; refine (exact_nearest _ _ _ _).mono ?_; rintro e w' ⟨rfl, hb⟩; obtain ⟨hc, hf⟩ := bcell hb; simp only [World.size_alloc] at hc hf hb))
  have hz : w.heap.size + 1 < w'.heap.size := by have := hb.size; simp at this; omega
  have q0 : w'.cell? ⟨w.heap.size, 0, none⟩ = some (.int .u64 0) := by rw [hc _ _ (by omega)]; simp [go_sem]
  have q1 : w'.cell? ⟨w.heap.size, 1, none⟩ = some (.bool false) := by rw [hc _ _ (by omega)]; simp [go_sem]
  have c0 := World.cell?_setCell_same' w' ⟨w.heap.size, 0, none⟩ (.int .u64 (0)) (by rw [q0]; rfl)
  have c1 := World.cell?_setCell_same' (w'.setCell ⟨w.heap.size, 0, none⟩ (.int .u64 (0))) ⟨w.heap.size, 1, none⟩ (.bool false) (by simp [go_sem, q1])
  simp [bodyPost, results, Try.results71, go_sem, c0, c1, Result.andThen]
  exact ((((Below.refl _ _).alloc (Nat.le_refl _) _).alloc (by simp) _).trans (hb.mono (by omega))).setCell (Nat.le_refl _) _ |>.setCell (Nat.le_refl _) _

theorem below_drewN {B : Nat} {a w : World} (h : Below B a w) (n : Nat) : Below B a (w.drewN n) := ⟨h.os, h.tape, h.output, h.size, h.block⟩

set_option maxHeartbeats 1000000 in
theorem add_fits (x y : Int) (hx : 0 ≤ x) (hy : 0 ≤ y) (hx1 : x < 18446744073709551616) (hy1 : y < 18446744073709551616) (h : x + y < 18446744073709551616) (w : World) :
    Calls Try.prog 47 #[.int .u64 x, .int .u64 y] w fun e w' => e = .returned (.tuple #[.int .u64 (addN x y), .bool true]) ∧ Below w.heap.size w w' := by
  have hC := fun w => sum_exact_fits x y hx hy hx1 hy1 h w
  clear h
  go_enter Try.func47, Try.ntmps47
  go_wp2_with (go_at_call 71; refine (hC _).mono ?_; clear hC; rintro e w' ⟨rfl, hb⟩)
  go_quiet (fail)
  go_wp2
  go_ret2
  exact ⟨rfl, below_drewN (hb.alloc hb.size _) _⟩

set_option maxHeartbeats 1000000 in
theorem add_over (x y : Int) (hx : 0 ≤ x) (hy : 0 ≤ y) (hx1 : x < 18446744073709551616) (hy1 : y < 18446744073709551616) (h : ¬ x + y < 18446744073709551616) (w : World) :
    Calls Try.prog 47 #[.int .u64 x, .int .u64 y] w fun e w' => e = .returned (.tuple #[.int .u64 (0), .bool false]) ∧ Below w.heap.size w w' := by
  have hC := fun w => sum_exact_over x y hx hy hx1 hy1 h w
  clear h
  go_enter Try.func47, Try.ntmps47
  go_wp2_with (go_at_call 71; refine (hC _).mono ?_; clear hC; rintro e w' ⟨rfl, hb⟩)
  go_quiet (fail)
  go_wp2
  go_ret2
  exact ⟨rfl, below_drewN (hb.alloc hb.size _) _⟩

/-- num.Add: the sum, and whether it fits. -/
theorem add_any (x y : Int) (hx : 0 ≤ x) (hy : 0 ≤ y) (hx1 : x < 18446744073709551616) (hy1 : y < 18446744073709551616) (w : World) :
    Calls Try.prog 47 #[.int .u64 x, .int .u64 y] w fun e w' => e = .returned (.tuple #[.int .u64 (addN x y), .bool (addF x y)]) ∧ Chg [] w w' := by
  by_cases h : x + y < 18446744073709551616
  · rw [show addF x y = true by unfold addF; simpa using h]
    exact (add_fits x y hx hy hx1 hy1 h w).mono fun e w' ⟨h1, h2⟩ => ⟨h1, Chg.of_below h2⟩
  · rw [show addF x y = false by unfold addF; simpa using h, show addN x y = 0 by unfold addN; rw [if_neg h]]
    exact (add_over x y hx hy hx1 hy1 h w).mono fun e w' ⟨h1, h2⟩ => ⟨h1, Chg.of_below h2⟩

end Go.Proofs
end
section
namespace Go.Proofs
open Go.RowKit Go.Shelf
set_option linter.unusedVariables false
set_option linter.unusedSimpArgs false

/-- The next time at which a period of so much begins. -/
def nextP (now per : Int) : Option Int := if now - now % per + per < 18446744073709551616 then some (now - now % per + per) else none
def tellN (now : Int) : Plc → Option Int := fun p => nextP now p.x.per
theorem mod_bd {now per : Int} (n0 : 0 ≤ now) (hp : 1 ≤ per) : 0 ≤ now % per ∧ now % per ≤ now ∧ now % per < per := by
  refine ⟨Int.emod_nonneg _ (by omega), ?_, Int.emod_lt_of_pos _ (by omega)⟩
  have h1 := Int.mul_ediv_add_emod now per
  have h2 : 0 ≤ per * (now / per) := Int.mul_nonneg (by omega) (Int.ediv_nonneg n0 (by omega))
  omega
set_option maxHeartbeats 1600000 in
set_option maxRecDepth 100000 in
theorem ntell_any {w : World} {B : Nat} {now : Int} (hB : Blk w B 22 #[.int .u64 now]) (n0 : 0 ≤ now) (n1 : now < 18446744073709551616) (p : Plc) (hp : 1 ≤ p.x.per ∧ p.x.per < 18446744073709551616) :
    Calls Try.prog 46 #[p.val, ptr B] w fun e w' => e = .returned (.tuple #[.int .u64 ((nextP now p.x.per).getD 0), .bool (nextP now p.x.per).isSome]) ∧ Chg [] w w' := by
  obtain ⟨m0, m1, m2⟩ := mod_bd n0 hp.1
  have e1 : now.tmod p.x.per = now % p.x.per := Int.tmod_eq_emod_of_nonneg n0
  obtain ⟨m, hm⟩ : ∃ m, m = now % p.x.per := ⟨_, rfl⟩
  have HA := Lib.hid (add_any (now - m) p.x.per (by omega) (by omega) (by omega) hp.2)
  have hN : (nextP now p.x.per).getD 0 = addN (now - m) p.x.per ∧ (nextP now p.x.per).isSome = addF (now - m) p.x.per := by
    unfold nextP addN addF; rw [← hm]
    by_cases h : now - m + p.x.per < 18446744073709551616
    · rw [if_pos h, if_pos h, decide_eq_true h]; exact ⟨rfl, rfl⟩
    · rw [if_neg h, if_neg h, decide_eq_false h]; exact ⟨rfl, rfl⟩
  rw [hN.1, hN.2]
  rw [← hm] at e1 m0 m1 m2
  obtain ⟨a, ha⟩ : ∃ a, a = addN (now - m) p.x.per := ⟨_, rfl⟩
  obtain ⟨b, hb⟩ : ∃ b, b = addF (now - m) p.x.per := ⟨_, rfl⟩
  rw [← ha, ← hb] at HA ⊢
  have HB := Lib.hid hB
  have b0 := hB.cell 0
  have lb := hB.lt
  obtain ⟨pi, pq, px⟩ := p
  obtain ⟨x0, x1, x2, x3, per, x5, x6, x7, x8, x9, x10⟩ := px
  simp only at HA hp e1 m2
  have e2 : IntKind.u64.wrap m = m := by rw [IntKind.wrap_u64]; omega
  have e3 : IntKind.u64.wrap (now - m) = now - m := by rw [IntKind.wrap_u64]; omega
  have e4 : ¬ per = 0 := by omega
  have e5 : (per == 0) = false := by simpa using e4
  clear hm hN ha hb hB
  go_enter Try.func46, Try.ntmps46
  go_wp2
  go_region_held3 (fun w' => w'.cell? ⟨B, 0, none⟩ = some (.int .u64 now))
    (first | go_keep)
    (first
      | (go_at_call 47; refine (HA.out _).mono ?_; rintro e w1 ⟨rfl, hc⟩; have HC := Lib.hid ((((Chg.refl [] w).alloc _).drew).then hc); have b0 := (HB.out.chg HC.out (by simp)).cell 0; clear hc))
  all_goals
    go_wp2
    go_ret2
    exact ⟨rfl, HC.out⟩
end Go.Proofs
end
section
namespace Go.Proofs
open Go.RowKit Go.Shelf
set_option linter.unusedVariables false
attribute [local go_sem] Oper.semAt_some

/-- The maker of the iterator that goes over the table as it is. -/
theorem make_now (n : Nat) (p : Option Addr) (w : World) :
    CallsIn Fence.wide n Try.prog 72 #[.pointer p] w fun e w' => e = .returned (.func (.func 84) #[] #[.pointer (some ⟨w.heap.size, 0, none⟩)]) ∧ w' = w.alloc (.cells #[.pointer p] 102) := by
  refine callsIn_of_wp Try.func72 rfl trivial ?_ rfl
  simp only [Try.ntmps72, List.size_toArray, List.length_cons, List.length_nil, Nat.reduceAdd, Nat.reduceSub, Array.replicate_succ, Array.replicate_zero, List.push_toArray, List.append_toArray, List.nil_append, List.cons_append]
  gi_wp2
  go_ret
  exact ⟨rfl, rfl⟩

theorem now_stops (n : Nat) (hn : 1 ≤ n) (b g N : Nat) (S : List Nat) (t : Tab Dm) (hw : t.WF) (hN : t.size = (N : Nat)) (w : World) (hb : b < w.heap.size) (hV : w.cell? ⟨b, 0, none⟩ = some (.pointer (some ⟨g, 0, none⟩))) (hT : TabAt w g S t) :
    SeqStopsK Fence.wide n Try.prog 84 #[.pointer (some ⟨b, 0, none⟩)] Plc.encs (KeepL (b :: S)) (fun ys => ys = nowL t N) (fun pre => pre <+: nowL t N) (N + 1) w := fun l J Jx W hW hJ _ hY h0 =>
  now_in n hn l b g N S t hw hN w hb hV hT J Jx W ⟨hW.size, fun k hk => hW.block k (by
    rcases List.mem_cons.1 hk with rfl | hk
    · exact hb
    · exact hT.lt k hk)⟩ hJ hY h0

theorem Try.info_N : (Try.prog.info? 129).map (fun i => (i.zero, i.size, i.bytes)) = some (some (.agg #[.int .i64 0, .int .u64 0, .int .i64 0, .int .u64 0, .int .i64 0, .int .u64 0, .int .u64 0, .int .i64 0, .int .u64 0, .int .i64 0, .int .i64 0, .int .u64 0, .int .i64 0]), 13, 104) := by kernel_rfl

/-- A captured box, and the slice of names that it holds; both were made from n0 on. -/
structure Held (n0 : Nat) (W : World) (B : Nat) (xs : List Plc) : Prop where
  ge : n0 ≤ B
  lt : B < W.heap.size
  row : ∃ V, W.cell? ⟨B, 0, none⟩ = some V ∧ Row W 129 13 V xs.length (plcCells xs) ∧ (∀ k ∈ foot V, n0 ≤ k ∧ k < W.heap.size)
def Gathered (n0 : Nat) (xs : List Plc) (e : Ending) (W : World) : Prop := ∃ B, e = .returned (.func (.func 73) #[] #[.pointer (some ⟨B, 0, none⟩)]) ∧ Held n0 W B xs


set_option maxRecDepth 100000 in
set_option maxHeartbeats 3200000 in
/-- **All**: it gathers all that is there, at once. -/
theorem all_in (n : Nat) (hn : 6 ≤ n) (g N : Nat) (S : List Nat) (t : Tab Dm) (hw : t.WF) (hN : t.size = (N : Nat)) (w : World) (hT : TabAt w g S t) :
    CallsIn Fence.wide n Try.prog 51 #[.pointer (some ⟨g, 0, none⟩)] w fun e W' => Gathered w.heap.size (nowL t N) e W' ∧ Below w.heap.size w W' := by
  have h1 : 1 ≤ n := by omega
  have hN4 : N ≤ 4096 := by have := hw.s1; omega
  have hlen : ∀ pre : List Plc, pre.length < N + 1 → pre.length ≤ 4096 := fun _ _ => by omega
  refine callsIn_of_wp_marks Try.func51 rfl trivial ?_ rfl
  simp only [Try.ntmps51, List.size_toArray, List.length_cons, List.length_nil, Nat.reduceAdd, Nat.reduceSub, Array.replicate_succ, Array.replicate_zero, List.push_toArray, List.append_toArray, List.nil_append, List.cons_append]
  gi_wp2_with (refine ⟨trivial, ?_⟩; gi_at_call 72; refine (make_now (n - 1) _ _).mono ?_; rintro e w' ⟨rfl, rfl⟩)
  have bS := (Boxed.new w 127 (.slice none 0 0)).alloc (.cells #[.pointer (some ⟨g, 0, none⟩)] 102)
  have bT := Boxed.new (w.alloc (.cells #[.slice none 0 0] 127)) 102 (.pointer (some ⟨g, 0, none⟩))
  simp only [World.size_alloc] at bT
  have hB0 : Below w.heap.size w ((w.alloc (.cells #[.slice none 0 0] 127)).alloc (.cells #[.pointer (some ⟨g, 0, none⟩)] 102)) := ((Below.refl _ w).alloc (Nat.le_refl _) _).alloc (by simp) _
  have hT0 := (hT.quiet (((Chg.refl [] w).alloc (.cells #[.slice none 0 0] 127)).alloc (.cells #[.pointer (some ⟨g, 0, none⟩)] 102)))
  have hsz : ((w.alloc (.cells #[.slice none 0 0] 127)).alloc (.cells #[.pointer (some ⟨g, 0, none⟩)] 102)).heap.size = w.heap.size + 2 := by simp
  obtain ⟨W0, hW0⟩ : ∃ W0, (w.alloc (.cells #[.slice none 0 0] 127)).alloc (.cells #[.pointer (some ⟨g, 0, none⟩)] 102) = W0 := ⟨_, rfl⟩
  rw [hW0] at bS bT hB0 hsz hT0 ⊢
  clear hW0
  have hL : ∀ k ∈ (w.heap.size + 1) :: S, k < W0.heap.size ∧ k ≠ w.heap.size := fun k hk => by
    rcases List.mem_cons.1 hk with rfl | hk
    · omega
    · have := hT.lt k hk; omega
  obtain ⟨i0, hi0, hz0, hz1, hz2⟩ := info_parts Try.info_N
  refine wpIn_rangeFunc_ownH rfl h1 (gf := 84) (lb := #[.pointer (some ⟨w.heap.size + 1, 0, none⟩)]) rfl trivial (enters_of Try.func84 (by kernel_rfl) rfl)
    (now_stops (n - 1) (by omega) (w.heap.size + 1) g N S t hw hN W0 (by omega) bT.cell hT0) (fun h k => h.trans k)
    (fun W l o o' hl ho _ _ => ⟨by simp [World.putObj], fun k hk => by have := hL k hk; exact (grownBy_putObj' W l o').block k (by have := (Array.getElem?_eq_some_iff.1 ho).1; omega) (fun e => by cases e; omega)⟩)
    (Below.refl _ _) (fun _ => rfl)
    (fun pre W => ((∃ V, Boxed W w.heap.size 127 V ∧ W.ownsRow w.heap.size 129 13 V pre.length (plcCells pre) ∧ True) ∧ Boxed W (w.heap.size + 1) 102 (.pointer (some ⟨g, 0, none⟩))) ∧ Below w.heap.size W0 W)
    (fun _ _ _ => False)
    (OwnFrom.and (OwnFrom.and (Own.from (holdsRow_own w.heap.size w.heap.size 127 129 13 (fun pre : List Plc => pre.length) (fun pre => plcCells pre) (fun pre v => True)) _) (Own.from (boxed_own _ _ _) _)) (ownFrom_below (by omega) (by omega)))
    (fun _ _ _ _ _ hs _ _ => hs)
    ⟨⟨⟨_, bS, World.ownsRow_nil _ _ _ _, trivial⟩, bT⟩, Below.refl _ _⟩
    (fun x a' W => ∃ Bx By, w.heap.size + 1 < Bx ∧ w.heap.size + 1 < By ∧ Blk W Bx 34 #[.int .i64 x.i, .int .u64 x.q] ∧ Blk W By 59 #[.int .i64 x.x.pi, .int .u64 x.x.pg, .int .i64 x.x.gs, .int .u64 x.x.cpu, .int .u64 x.x.per, .int .i64 x.x.cgs, .int .u64 x.x.car, .int .i64 x.x.own, .int .i64 x.x.live, .int .u64 x.x.used, .int .i64 x.x.ch] ∧ a' = { tmps := #[.pointer (some ⟨g, 0, none⟩), undef, .nilFunc, .pointer (some ⟨w.heap.size, 0, none⟩), .pointer (some ⟨Bx, 0, none⟩), .pointer (some ⟨By, 0, none⟩), .pointer (some ⟨g, 0, none⟩), .func (.func 84) #[] #[.pointer (some ⟨w.heap.size + 1, 0, none⟩)], .agg #[.int .i64 x.i, .int .u64 x.q], x.x.val, undef, undef, undef, undef, undef, undef, undef], defers := [] })
    (fun x a' _ X Y row hs hg hr => by
      obtain ⟨Bx, By, h1, h1', h2, h2', h3⟩ := hs
      have k : ∀ {b : Nat} {t : TypeId} {cs : Array Value}, Blk X b t cs → Blk Y b t cs := fun {b t cs} h2 => h2.same (hg.block b h2.lt (fun e => by
        obtain ⟨_, o, ho, hc⟩ := hr b e.symm
        unfold Blk at h2
        rw [h2] at ho; cases ho; cases hc))
      exact ⟨Bx, By, h1, h1', k h2, k h2', h3⟩)
    ?assign ?body ?done ?stop
  case assign =>
    rintro l pre x W K ⟨⟨⟨V, hV, hr, _⟩, hT9⟩, hB⟩ hK
    have hz := hB.size
    have hzw : w.heap.size ≤ W.heap.size := by omega
    simp only [Plc.encs]
    gi_wp2
    exact hK _ _ (((KeepsOthers.alloc _ _).trans (KeepsOthers.alloc _ _)).from _) (KeepL.chg (((Chg.refl [] W).alloc _).alloc _) (fun k hk => by have := hL k hk; omega)) ⟨⟨⟨V, (hV.alloc _).alloc _, (hr.alloc _).alloc _, trivial⟩, (hT9.alloc _).alloc _⟩, (hB.alloc hzw _).alloc (by simp; omega) _⟩ ⟨W.heap.size, W.heap.size + 1, by omega, by omega, (Blk.new W 34 _).alloc _, Blk.at' (W.alloc _) 59 _ (by simp), rfl⟩
  case body =>
    rintro l pre x a' W hl ⟨r, hr⟩ ⟨⟨⟨V, hV, hrow, _⟩, hT9⟩, hB⟩ ⟨Bx, By, hBx, hBy, bX, bY, rfl⟩ hlt
    have hz := hB.size
    have hzw : w.heap.size ≤ W.heap.size := by omega
    have hc := hV.cell
    have hf := hV.frozen
    have x0 := bX.cell 0
    have x1 := bX.cell 1
    have y0 := bY.cell 0
    have y1 := bY.cell 1
    have y2 := bY.cell 2
    have y3 := bY.cell 3
    have y4 := bY.cell 4
    have y5 := bY.cell 5
    have y6 := bY.cell 6
    have y7 := bY.cell 7
    have y8 := bY.cell 8
    have y9 := bY.cell 9
    have y10 := bY.cell 10
    have ly := bY.lt
    have lx := bX.lt
    have hln := hlen pre hlt
    have hne := hT9.not_row (by decide) hrow
    gi_wp2_with (gi_at_builtin; refine wpListIn_append_own _ rfl _ _ 127 rfl w.heap.size 129 i0 (.agg #[.int .i64 0, .int .u64 0, .int .i64 0, .int .u64 0, .int .i64 0, .int .u64 0, .int .u64 0, .int .i64 0, .int .u64 0, .int .i64 0, .int .i64 0, .int .u64 0, .int .i64 0]) 13 104 Try.underlying127 hi0 hz0 hz1 hz2 rfl (by decide) _ _ _ rfl (hrow.alloc _) ⟨W.heap.size, 0, none⟩ 1 1 [.int .i64 x.i, .int .u64 x.q, .int .i64 x.x.pi, .int .u64 x.x.pg, .int .i64 x.x.gs, .int .u64 x.x.cpu, .int .u64 x.x.per, .int .i64 x.x.cgs, .int .u64 x.x.car, .int .i64 x.x.own, .int .i64 x.x.live, .int .u64 x.x.used, .int .i64 x.x.ch] rfl rfl (World.news_of_block (cs := #[.int .i64 x.i, .int .u64 x.q, .int .i64 x.x.pi, .int .u64 x.x.pg, .int .i64 x.x.gs, .int .u64 x.x.cpu, .int .u64 x.x.per, .int .i64 x.x.cgs, .int .u64 x.x.car, .int .i64 x.x.own, .int .i64 x.x.live, .int .u64 x.x.used, .int .i64 x.x.ch]) (t := 129) (fr := (0, 0)) (heap_alloc_new W _)) (by simp [Value.oneCell']) (by unfold maxLen; omega) (by omega) (by simp; omega) ?_; intro v' w1 hown' hgrow _; obtain ⟨g', cap', rfl⟩ := ownsRow_succ hown'; obtain ⟨hv1, hv2, hr2, hk2, hb2⟩ := hV.appended (by decide) hrow hzw (Nat.le_refl _) hown' hgrow; have hc1 := hv1.cell; have hf1 := hv1.frozen; have hT8 := ((hT9.alloc (.cells #[.int .i64 x.i, .int .u64 x.q, .int .i64 x.x.pi, .int .u64 x.x.pg, .int .i64 x.x.gs, .int .u64 x.x.cpu, .int .u64 x.x.per, .int .i64 x.x.cgs, .int .u64 x.x.car, .int .i64 x.x.own, .int .i64 x.x.live, .int .u64 x.x.used, .int .i64 x.x.ch] 129)).kept hgrow hne).other (B' := w.heap.size) (by omega) (.slice (some ⟨g', 0, none⟩) (pre.length + 1) cap'))
    refine ⟨hk2.from _, ⟨hb2.size, fun k hk => ?_⟩, ⟨⟨⟨_, hv2, ?_, trivial⟩, hT8⟩, hB.trans hb2⟩⟩
    · rcases List.mem_cons.1 hk with rfl | hk
      · exact hT8.trans hT9.symm
      · exact hb2.block k (hT.lt k hk)
    · rw [plcCells_snoc, List.length_append]; exact hr2
  case done =>
    rintro D zs W hD rfl ⟨⟨⟨V, hV, hrow, _⟩, hT9⟩, hB⟩ hK
    have hz := hB.size
    have cS := hV.cell
    gi_wp2
    refine ⟨by simp, .inl ⟨_, _, rfl, run_takeDeferred hK, ?_⟩⟩
    have hgD := grownBy_putObj' W D (.deferred none)
    have hD2 : some w.heap.size ≠ some D := by intro e; cases e; omega
    refine ⟨_, results_tmp rfl _ _ _, ⟨w.heap.size, rfl, Nat.le_refl _, by have := (hV.kept hgD hD2).lt; exact this, V, (hV.kept hgD hD2).cell, Row.of_own (ownsRow_putObj hrow _ hK rfl), fun k hk => ⟨?_, Row.lt (Row.of_own (ownsRow_putObj hrow (.deferred none) hK rfl)) k hk⟩⟩, (hB0.trans hB).trans (belowK_b (w := w) (Nat.le_refl _) W D _ _ (by omega) hK rfl rfl)⟩
    rcases hrow.2 with ⟨rfl, _⟩ | ⟨g', cap, cur, rfl, hb, _, _⟩
    · cases hk
    · simp [foot_some] at hk; subst hk; exact hb
  case stop =>
    rintro D c pre W _ _ h _
    exact h.elim
end Go.Proofs
end
section
namespace Go.Proofs
open Go.RowKit Go.Shelf
set_option linter.unusedVariables false

/-- A captured box, and the slice of names that it holds; both were made from n0 on, and lie below hi. -/
structure HeldTo (n0 hi : Nat) (W : World) (B : Nat) (xs : List Plc) : Prop where
  ge : n0 ≤ B
  lt : B < hi
  top : hi ≤ W.heap.size
  row : ∃ V, W.cell? ⟨B, 0, none⟩ = some V ∧ Row W 129 13 V xs.length (plcCells xs) ∧ (∀ k ∈ foot V, n0 ≤ k ∧ k < hi)
theorem Held.to {n0 : Nat} {W : World} {B : Nat} {xs : List Plc} (h : Held n0 W B xs) : HeldTo n0 W.heap.size W B xs := ⟨h.ge, h.lt, Nat.le_refl _, h.row⟩
/-- What changes blocks that lie ahead of it, or behind it, leaves it as it is. -/
theorem HeldTo.chg {n0 hi : Nat} {W W' : World} {B : Nat} {xs : List Plc} {S : List Nat} (h : HeldTo n0 hi W B xs) (hc : Chg S W W') (hS : ∀ k ∈ S, k < n0 ∨ hi ≤ k) : HeldTo n0 hi W' B xs := by
  obtain ⟨h1, h2, h3, V, hV, hR, hf⟩ := h
  refine ⟨h1, h2, Nat.le_trans h3 hc.size, V, ?_, hR.chg hc (fun k hk hm => ?_), hf⟩
  · rw [hc.cell (p := ⟨B, 0, none⟩) (Nat.lt_of_lt_of_le h2 h3) (fun hm => by have := hS _ hm; simp only at this; omega)]
    exact hV
  · have a := hf k hk
    have b := hS k hm
    omega
theorem HeldTo.below {n0 hi D : Nat} {W W' : World} {B : Nat} {xs : List Plc} (h : HeldTo n0 hi W B xs) (hb : Below D W W') (hD : hi ≤ D) : HeldTo n0 hi W' B xs := by
  obtain ⟨h1, h2, h3, V, hV, hR, hf⟩ := h
  exact ⟨h1, h2, Nat.le_trans h3 hb.size, V, (hb.cell (p := ⟨B, 0, none⟩) (Nat.lt_of_lt_of_le h2 hD)).trans hV, hR.same (fun k hk => hb.block k (Nat.lt_of_lt_of_le (hf k hk).2 hD)), hf⟩

theorem HeldTo.keep {n0 hi : Nat} {X : Nat → Prop} {W W' : World} {B : Nat} {xs : List Plc} (h : HeldTo n0 hi W B xs) (hk : KeepP X W W') (hX : ∀ k, n0 ≤ k → k < hi → X k) : HeldTo n0 hi W' B xs := by
  obtain ⟨h1, h2, h3, V, hV, hR, hf⟩ := h
  exact ⟨h1, h2, Nat.le_trans h3 hk.size, V, (hk.cell (p := ⟨B, 0, none⟩) (hX B h1 h2)).trans hV, hR.same (fun k hm => hk.block k (hX k (hf k hm).1 (hf k hm).2)), hf⟩
/-- The iterator that All hands out, for a range over it. -/
theorem over_stops {β : Type} (f : β → Plc) (n : Nat) (hn : 1 ≤ n) {n0 hi B : Nat} {X : Nat → Prop} {xs : List β} {w : World} (h : HeldTo n0 hi w B (xs.map f)) (hX : ∀ k, n0 ≤ k → k < hi → X k) (hXw : ∀ k, X k → k < w.heap.size) (hl : xs.length ≤ 5000) :
    SeqStopsK Fence.wide n Try.prog 73 #[.pointer (some ⟨B, 0, none⟩)] (fun x => Plc.encs (f x)) (KeepP X) (fun ys => ys = xs) (fun pre => pre <+: xs) xs.length w := fun l J Jx W hW hJ _ hY h0 => by
  obtain ⟨h1, h2, h3, V, hV, hR, hf⟩ := h
  rw [List.length_map] at hR
  exact over_in f n hn l B X V xs w hXw (hX B h1 h2) hV hR (fun k hk => hX k (hf k hk).1 (hf k hk).2) hl J Jx W (KeepP.below hW hXw) hJ hY h0
end Go.Proofs
end
section
namespace Go.Proofs
open Go.RowKit Go.Shelf
set_option linter.unusedVariables false
set_option linter.unusedSimpArgs false
attribute [local go_sem] Oper.semAt_some

theorem ownsRow_mono {W : World} {n m : Nat} {t : TypeId} {z : Nat} {V : Value} {k : Nat} {xs : List Value} (h : m ≤ n) (hr : W.ownsRow n t z V k xs) : W.ownsRow m t z V k xs :=
  ⟨hr.1, hr.2.imp id fun ⟨g, cap, cur, e, hb, r⟩ => ⟨g, cap, cur, e, by omega, r⟩⟩

set_option maxRecDepth 100000 in
set_option maxHeartbeats 3200000 in
/-- **All** of the domains: what is gathered, in a slice of the call's own. -/
theorem allD_in (n : Nat) (hn : 10 ≤ n) {w : World} {c N : Nat} {S : List Nat} {t : Tab Dm} (h : DomAt w c S t) (hN : t.size = (N : Nat)) :
    CallsIn Fence.wide n Try.prog 25 #[ptr c] w fun e W' => ∃ A cc, e = .returned (.slice A (nowL t N).length cc) ∧ Row W' 90 13 (.slice A (nowL t N).length cc) (nowL t N).length (plcCells (nowL t N)) ∧ (∀ k ∈ foot (.slice A (nowL t N).length cc), w.heap.size ≤ k) ∧ Below w.heap.size w W' := by
  obtain ⟨g, hB, hT, hW⟩ := h
  have h1 : 1 ≤ n := by omega
  have hN4 : N ≤ 4096 := by have := hW.s1; omega
  have HP := Lib.hid (fun W (hc : Chg [] w W) => places_any (hB.chg hc (by simp)))
  have HA := Lib.hid (fun W (hc : Chg [] w W) => all_in (n - 1) (by omega) g N S t hW hN W (hT.quiet hc))
  clear hB hT hW
  have hnl := nowL_len t N
  obtain ⟨XS, hXS⟩ : ∃ XS, XS = nowL t N := ⟨_, rfl⟩
  rw [← hXS] at HA hnl ⊢
  refine callsIn_of_wp_marks Try.func25 rfl trivial ?_ rfl
  simp only [Try.ntmps25, List.size_toArray, List.length_cons, List.length_nil, Nat.reduceAdd, Nat.reduceSub, Array.replicate_succ, Array.replicate_zero, List.push_toArray, List.append_toArray, List.nil_append, List.cons_append]
  gi_wp2_with (first
    | (refine ⟨trivial, ?_⟩; gi_at_call 50; refine (callsIn_wide.2 (HP.out _ ((Chg.refl _ _).alloc _))).mono ?_; rintro e w' ⟨rfl, rfl⟩)
    | (refine ⟨trivial, ?_⟩; gi_at_call 51; refine (HA.out _ ((Chg.refl _ _).alloc _)).mono ?_; rintro e W0 ⟨⟨Bo, rfl, hH⟩, hBl⟩; have HH := Lib.hid hH; have HBL := Lib.hid hBl; clear hH hBl))
  have hz0 := HBL.out.size
  simp only [World.size_alloc] at hz0
  have hBx : Boxed W0 w.heap.size 53 (.slice none 0 0) := (HBL.out.block _ (by simp)).trans (Boxed.new w 53 (.slice none 0 0))
  have hB0 : Below w.heap.size w W0 := ((Below.refl _ w).alloc (Nat.le_refl _) _).trans (HBL.out.mono (by simp))
  have hHT := HH.out.to
  simp only [World.size_alloc] at hHT
  have hmap : XS.map id = XS := by simp
  rw [← hmap] at hHT
  obtain ⟨in0, hi0, hq0, hq1, hq2⟩ := info_parts Try.plc_info
  have lbo := hHT.lt
  refine wpIn_rangeFunc_ownH rfl h1 (gf := 73) (lb := #[.pointer (some ⟨Bo, 0, none⟩)]) rfl trivial (enters_of Try.func73 (by kernel_rfl) rfl)
    (over_stops id (n - 1) (by omega) (X := fun k => w.heap.size + 1 ≤ k ∧ k < W0.heap.size) hHT (fun k h1 h2 => ⟨h1, h2⟩) (fun k hk => hk.2) (by omega)) (fun h k => h.trans k)
    (fun W l o o' hl ho _ _ => ⟨by simp [World.putObj], fun k hk => (grownBy_putObj' W l o').block k (by have := (Array.getElem?_eq_some_iff.1 ho).1; omega) (fun e => by cases e; omega)⟩)
    (Below.refl _ _) (fun _ => rfl)
    (fun pre W => (∃ V, Boxed W w.heap.size 53 V ∧ W.ownsRow W0.heap.size 90 13 V pre.length (plcCells pre) ∧ True) ∧ Below w.heap.size W0 W)
    (fun _ _ _ => False)
    (OwnFrom.and (Own.from (holdsRow_own W0.heap.size w.heap.size 53 90 13 (fun pre : List Plc => pre.length) (fun pre => plcCells pre) (fun pre v => True)) _) (ownFrom_below (by omega) (by omega)))
    (fun _ _ _ _ _ hs _ _ => hs)
    ⟨⟨_, hBx, World.ownsRow_nil _ _ _ _, trivial⟩, Below.refl _ _⟩
    (fun x a' W => ∃ Bx By, W0.heap.size ≤ Bx ∧ W0.heap.size ≤ By ∧ Blk W Bx 34 #[.int .i64 x.i, .int .u64 x.q] ∧ Blk W By 59 x.x.arr ∧ a' = { tmps := #[ptr c, undef, .slice none 0 0, .pointer (some ⟨w.heap.size, 0, none⟩), .pointer (some ⟨Bx, 0, none⟩), .pointer (some ⟨By, 0, none⟩), ptr c, ptr g, .func (.func 73) #[] #[.pointer (some ⟨Bo, 0, none⟩)], .agg #[.int .i64 x.i, .int .u64 x.q], x.x.val, undef, undef, undef, undef, undef, undef, undef], defers := [] })
    (fun x a' _ X Y row hs hg hr => by
      obtain ⟨Bx, By, h1, h1', h2, h2', h3⟩ := hs
      have k : ∀ {b : Nat} {t : TypeId} {cs : Array Value}, Blk X b t cs → Blk Y b t cs := fun {b t cs} h2 => h2.same (hg.block b h2.lt (fun e => by
        obtain ⟨_, o, ho, hc⟩ := hr b e.symm
        unfold Blk at h2
        rw [h2] at ho; cases ho; cases hc))
      exact ⟨Bx, By, h1, h1', k h2, k h2', h3⟩)
    ?assign ?body ?done ?stop
  case assign =>
    rintro l pre x W K ⟨⟨V, hV, hr, _⟩, hB⟩ hK
    have hz := hB.size
    simp only [Plc.encs, id]
    gi_wp2
    exact hK _ _ (((KeepsOthers.alloc _ _).trans (KeepsOthers.alloc _ _)).from _) (KeepP.quiet (((Chg.refl [] W).alloc _).alloc _) (fun k hk => by omega)) ⟨⟨V, (hV.alloc _).alloc _, (hr.alloc _).alloc _, trivial⟩, (hB.alloc (by omega) _).alloc (by simp; omega) _⟩ ⟨W.heap.size, W.heap.size + 1, by omega, by omega, (Blk.new W 34 _).alloc _, Blk.at' (W.alloc _) 59 _ (by simp), rfl⟩
  case body =>
    rintro l pre x a' W hl ⟨r, hr⟩ ⟨⟨V, hV, hrow, _⟩, hB⟩ ⟨Bx, By, hBx, hBy, bX, bY, rfl⟩ hlt
    have hz := hB.size
    have hc := hV.cell
    have hf := hV.frozen
    have x0 := bX.cell 0
    have x1 := bX.cell 1
    have ly := bY.lt
    have lx := bX.lt
    obtain ⟨_, y0, y1, y2, y3, y4, y5, y6, y7, y8, y9, y10, yf⟩ := x_facts bY
    have hzw : w.heap.size ≤ W.heap.size := by omega
    gi_wp2_with (gi_at_builtin; refine wpListIn_append_own _ rfl _ _ 53 rfl W0.heap.size 90 in0 (.agg #[.int .i64 0, .int .u64 0, .int .i64 0, .int .u64 0, .int .i64 0, .int .u64 0, .int .u64 0, .int .i64 0, .int .u64 0, .int .i64 0, .int .i64 0, .int .u64 0, .int .i64 0]) 13 104 Try.underlying53 hi0 hq0 hq1 hq2 rfl (by decide) _ _ _ rfl (hrow.alloc _) ⟨W.heap.size, 0, none⟩ 1 1 [.int .i64 x.i, .int .u64 x.q, .int .i64 x.x.pi, .int .u64 x.x.pg, .int .i64 x.x.gs, .int .u64 x.x.cpu, .int .u64 x.x.per, .int .i64 x.x.cgs, .int .u64 x.x.car, .int .i64 x.x.own, .int .i64 x.x.live, .int .u64 x.x.used, .int .i64 x.x.ch] rfl rfl (World.news_of_block (cs := #[.int .i64 x.i, .int .u64 x.q, .int .i64 x.x.pi, .int .u64 x.x.pg, .int .i64 x.x.gs, .int .u64 x.x.cpu, .int .u64 x.x.per, .int .i64 x.x.cgs, .int .u64 x.x.car, .int .i64 x.x.own, .int .i64 x.x.live, .int .u64 x.x.used, .int .i64 x.x.ch]) (t := 90) (fr := (0, 0)) (heap_alloc_new W _)) (by simp [Value.oneCell']) (by unfold maxLen; omega) (by omega) (by simp; omega) ?_; intro v' w1 hown' hgrow _; obtain ⟨g', cap', rfl⟩ := ownsRow_succ hown'; obtain ⟨hv1, hv2, hr2, hk2, hb2⟩ := hV.appended (by decide) (ownsRow_mono (m := w.heap.size) (by omega) hrow) (by omega) (Nat.le_refl _) (ownsRow_mono (by omega) hown') hgrow; have hr3 := hown'.kept (grownBy_setCell' w1 w.heap.size (.slice (some ⟨g', 0, none⟩) (pre.length + 1) cap')) (.inr (hv1.not_row (by decide) hown').symm); have hc1 := hv1.cell; have hf1 := hv1.frozen)
    refine ⟨hk2.from _, ⟨hb2.size, fun k hk => ?_⟩, ⟨⟨_, hv2, ?_, trivial⟩, hB.trans hb2⟩⟩
    · obtain ⟨hka, hkb⟩ := hk
      have e1 := hgrow.block k (by simp; omega) (fun e => by
        rcases hrow.2 with ⟨rfl, _⟩ | ⟨g1, cap, cur, rfl, hb, _, _⟩
        · have e' : (none : Option Nat) = some k := e.symm
          cases e'
        · have e' : (some g1 : Option Nat) = some k := e.symm
          cases e'; omega)
      rw [((grownBy_setCell' w1 w.heap.size _).block k (by have := hgrow.size; simp at this; omega) (fun e => by cases e; omega)), e1]
      exact ((Chg.refl [] W).alloc _).block k (by omega) (by simp)
    · rw [plcCells_snoc, List.length_append]; exact hr3
  case done =>
    rintro D zs W hD rfl ⟨⟨V, hV, hrow, _⟩, hB⟩ hK
    have hz := hB.size
    have cS := hV.cell
    gi_wp2
    refine ⟨by simp, .inl ⟨_, _, rfl, run_takeDeferred hK, ?_⟩⟩
    have hgD := grownBy_putObj' W D (.deferred none)
    have hR := Row.of_own (ownsRow_putObj hrow (.deferred none) hK rfl)
    have hB9 := (hB0.trans hB).trans (belowK_b (w := w) (Nat.le_refl _) W D _ (.deferred none) (by omega) hK rfl rfl)
    rcases hrow.2 with ⟨rfl, h0⟩ | ⟨g', cap, cur, rfl, hb, _, _⟩
    · refine ⟨_, results_tmp rfl _ _ _, none, 0, by simp [h0], by rw [h0] at hR ⊢; exact hR, (fun k hk => by cases hk), hB9⟩
    · refine ⟨_, results_tmp rfl _ _ _, some ⟨g', 0, none⟩, cap, rfl, hR, fun k hk => ?_, hB9⟩
      simp [foot_some] at hk; subst hk; omega
  case stop =>
    rintro D c pre W _ _ h _
    exact h.elim

theorem allD_any {w : World} {c N : Nat} {S : List Nat} {t : Tab Dm} (h : DomAt w c S t) (hN : t.size = (N : Nat)) :
    Calls Try.prog 25 #[ptr c] w fun e W' => ∃ A cc, e = .returned (.slice A (nowL t N).length cc) ∧ Row W' 90 13 (.slice A (nowL t N).length cc) (nowL t N).length (plcCells (nowL t N)) ∧ (∀ k ∈ foot (.slice A (nowL t N).length cc), w.heap.size ≤ k) ∧ Below w.heap.size w W' :=
  (callsIn_wide (n := 12)).1 (allD_in 12 (by omega) h hN)
end Go.Proofs
end
section
namespace Go.Proofs
open Go.RowKit Go.Shelf
set_option linter.unusedVariables false
set_option linter.unusedSimpArgs false

set_option maxHeartbeats 3200000 in
set_option maxRecDepth 100000 in
theorem least_next {w : World} {B : Nat} {now : Int} (hB : Blk w B 22 #[.int .u64 now]) (n0 : 0 ≤ now) (n1 : now < 18446744073709551616) {L : List Plc} {A : Option Addr} {cc : Nat}
    (hR : Row w 90 13 (.slice A L.length cc) L.length (plcCells L)) (hL : L.length ≤ 100000) (hI : ∀ p ∈ L, 1 ≤ p.x.per ∧ p.x.per < 18446744073709551616) :
    Calls Try.prog 45 #[.slice A L.length cc, .func (.func 46) #[] #[ptr B]] w fun e w' => e = .returned (.tuple #[.int .u64 (oInt (minF (tellN now) L)), .bool (minF (tellN now) L).isSome]) ∧ Chg [] w w' := by
  have HT := Lib.hid (fun W (hW : Chg [] w W) (p : Plc) (hp : p ∈ L) => ntell_any (hB.chg hW (by simp)) n0 n1 p (hI p hp))
  obtain ⟨n, hn⟩ : ∃ n, n = L.length := ⟨_, rfl⟩
  rw [← hn] at hR hL ⊢
  have HN := Lib.hid hn
  have HR := Lib.hid hR
  clear hB hR hn hI
  go_enter Try.func45, Try.ntmps45
  go_wp2
  go_loopg [6, 7, 14] n (fun gh v6 v7 iv wr => ∃ (j : Nat) (o : Option Int), j + gh = n ∧ v6 = .int .u64 (oInt o) ∧ v7 = .bool o.isSome ∧ iv = .int .i64 j ∧ Hid (Chg [] w wr ∧ o = minF (tellN now) (L.take j)))
  case atStart => exact ⟨0, none, by omega, rfl, rfl, rfl, Lib.hid ⟨Chg.refl _ _, by rw [List.take_zero]; rfl⟩⟩
  case round =>
    obtain ⟨j, o, hj, rfl, rfl, rfl, HH⟩ := hrel
    obtain ⟨hc, ho⟩ := HH.out
    by_cases hlt : j < n
    · have j0 : (0 : Int) ≤ (j : Int) := by omega
      have j1 : (j : Int) < (n : Int) := by omega
      obtain ⟨x, hx⟩ : ∃ x, L[j]? = some x := ⟨_, List.getElem?_eq_getElem (by rw [← HN.out]; exact hlt)⟩
      obtain ⟨gr, cr, hv, _, _, hcell, _, lgr2⟩ := HR.out.form (by omega)
      simp only [Value.slice.injEq] at hv
      obtain ⟨rfl, h91, h92⟩ := hv
      clear h91 h92
      obtain ⟨x0, x1, x2, x3, x4, x5, x6, x7, x8, x9, x10, x11, x12⟩ := plcCells_at hx
      have y0 := (hc.cell (p := ⟨gr, j * 13, none⟩) lgr2 (by simp)).trans (hcell _ _ x0)
      have y1 := (hc.cell (p := ⟨gr, j * 13 + 1, none⟩) lgr2 (by simp)).trans (hcell _ _ x1)
      have y2 := (hc.cell (p := ⟨gr, j * 13 + 2, none⟩) lgr2 (by simp)).trans (hcell _ _ x2)
      have y3 := (hc.cell (p := ⟨gr, j * 13 + 3, none⟩) lgr2 (by simp)).trans (hcell _ _ x3)
      have y4 := (hc.cell (p := ⟨gr, j * 13 + 4, none⟩) lgr2 (by simp)).trans (hcell _ _ x4)
      have y5 := (hc.cell (p := ⟨gr, j * 13 + 5, none⟩) lgr2 (by simp)).trans (hcell _ _ x5)
      have y6 := (hc.cell (p := ⟨gr, j * 13 + 6, none⟩) lgr2 (by simp)).trans (hcell _ _ x6)
      have y7 := (hc.cell (p := ⟨gr, j * 13 + 7, none⟩) lgr2 (by simp)).trans (hcell _ _ x7)
      have y8 := (hc.cell (p := ⟨gr, j * 13 + 8, none⟩) lgr2 (by simp)).trans (hcell _ _ x8)
      have y9 := (hc.cell (p := ⟨gr, j * 13 + 9, none⟩) lgr2 (by simp)).trans (hcell _ _ x9)
      have y10 := (hc.cell (p := ⟨gr, j * 13 + 10, none⟩) lgr2 (by simp)).trans (hcell _ _ x10)
      have y11 := (hc.cell (p := ⟨gr, j * 13 + 11, none⟩) lgr2 (by simp)).trans (hcell _ _ x11)
      have y12 := (hc.cell (p := ⟨gr, j * 13 + 12, none⟩) lgr2 (by simp)).trans (hcell _ _ x12)
      have HTX := Lib.hid (fun W (hW : Chg [] wr W) => HT.out W (hc.then hW) x (List.mem_of_getElem? hx))
      have HTK := Lib.hid (take_more hx)
      have htl : tellN now x = nextP now x.x.per := rfl
      obtain ⟨o1, ho1⟩ : ∃ o1, o1 = nextP now x.x.per := ⟨_, rfl⟩
      rw [← ho1] at HTX htl
      have HTL := Lib.hid htl
      have HCW := Lib.hid hc
      have HOO := Lib.hid ho
      clear hx hcell x0 x1 x2 x3 x4 x5 x6 x7 x8 x9 x10 x11 x12 hc HH htl ho1 ho
      cases o1 with
      | none =>
        have HY := Lib.hid (show o = minF (tellN now) (L.take (j + 1)) by rw [HTK.out, minF_none (by rw [HTL.out])]; exact HOO.out)
        go_wp2_with (first | (go_at_call 46; refine (HTX.out _ ((Chg.refl _ _).alloc _)).mono ?_; rintro e w1 ⟨rfl, hc1⟩; have HC1 := Lib.hid (((Chg.refl [] wr).alloc _).then hc1); clear hc1))
        go_roundg (n - j - 1)
        case measure => omega
        case rel => exact ⟨j + 1, o, by omega, rfl, rfl, by go_num, Lib.hid ⟨HCW.out.then HC1.out, HY.out⟩⟩
      | some m0 =>
        cases o with
        | none =>
          have HY := Lib.hid (show some m0 = minF (tellN now) (L.take (j + 1)) by rw [HTK.out, minF_some (m := m0) (by rw [HTL.out]), ← HOO.out]; rfl)
          go_wp2_with (first | (go_at_call 46; refine (HTX.out _ ((Chg.refl _ _).alloc _)).mono ?_; rintro e w1 ⟨rfl, hc1⟩; have HC1 := Lib.hid (((Chg.refl [] wr).alloc _).then hc1); clear hc1))
          go_roundg (n - j - 1)
          case measure => omega
          case rel => exact ⟨j + 1, some m0, by omega, rfl, rfl, by go_num, Lib.hid ⟨HCW.out.then HC1.out, HY.out⟩⟩
        | some n0 =>
          by_cases hmn : m0 < n0
          · have HY := Lib.hid (show some m0 = minF (tellN now) (L.take (j + 1)) by rw [HTK.out, minF_some (m := m0) (by rw [HTL.out]), ← HOO.out, minO_lt hmn])
            have e1 : decide (m0 < n0) = true := decide_eq_true hmn
            have e2 : oInt (some n0) = n0 := rfl
            simp only [e2]
            clear hmn
            go_wp2_with (first | (go_at_call 46; refine (HTX.out _ ((Chg.refl _ _).alloc _)).mono ?_; rintro e w1 ⟨rfl, hc1⟩; have HC1 := Lib.hid (((Chg.refl [] wr).alloc _).then hc1); clear hc1))
            go_roundg (n - j - 1)
            case measure => omega
            case rel => exact ⟨j + 1, some m0, by omega, rfl, rfl, by go_num, Lib.hid ⟨HCW.out.then HC1.out, HY.out⟩⟩
          · have HY := Lib.hid (show some n0 = minF (tellN now) (L.take (j + 1)) by rw [HTK.out, minF_some (m := m0) (by rw [HTL.out]), ← HOO.out, minO_ge hmn])
            have e1 : decide (m0 < n0) = false := decide_eq_false hmn
            have e2 : oInt (some n0) = n0 := rfl
            simp only [e2]
            clear hmn
            go_wp2_with (first | (go_at_call 46; refine (HTX.out _ ((Chg.refl _ _).alloc _)).mono ?_; rintro e w1 ⟨rfl, hc1⟩; have HC1 := Lib.hid (((Chg.refl [] wr).alloc _).then hc1); clear hc1))
            go_roundg (n - j - 1)
            case measure => omega
            case rel => exact ⟨j + 1, some n0, by omega, rfl, rfl, by go_num, Lib.hid ⟨HCW.out.then HC1.out, HY.out⟩⟩
    · obtain rfl : n = j := by omega
      have HY := Lib.hid (show o = minF (tellN now) L by rw [HN.out, List.take_length] at ho; exact ho)
      have HCW := Lib.hid hc
      clear hc HH ho
      go_wp2
      go_ret2
      exact ⟨by rw [← HY.out]; rfl, HCW.out⟩
end Go.Proofs
end
section
namespace Go.Proofs
open Go.RowKit Go.Shelf
set_option linter.unusedVariables false
set_option linter.unusedSimpArgs false

/-- Each one that is there has a period. -/
def Pers (r : RTab) : Prop := ∀ k, (r.pl k).is = true → 1 ≤ (r.pl k).per ∧ (r.pl k).per ≤ 4294967296
theorem Like.pers {r r' : RTab} (h : Like r r') (hp : Pers r) : Pers r' := fun k hk => by rw [h.per]; exact hp k (by rw [← h.is]; exact hk)
theorem all_mem {r : RTab} {ch : Nat → List (Int × Int)} {p : Plc} : p ∈ r.all ch ↔ ∃ k : Nat, k < r.L.length ∧ (r.pl k).is = true ∧ p = ⟨(k : Nat), (r.pl k).gen, r.get ch (k : Nat) (r.pl k).gen⟩ := by
  unfold RTab.all RTab.allTo
  rw [List.mem_filterMap]
  constructor
  · rintro ⟨k, hk, h⟩
    rw [List.mem_range] at hk
    unfold RTab.plcAt at h
    cases hp : r.L[k]? with
    | none => rw [hp] at h; cases h
    | some x =>
      rw [hp] at h
      have e := RTab.pl_eq hp
      by_cases hi : x.is = true
      · simp only [hi, if_true, Option.some.injEq] at h
        exact ⟨k, hk, by rw [e]; exact hi, by rw [e]; exact h.symm⟩
      · simp [hi] at h
  · rintro ⟨k, hk, hi, rfl⟩
    refine ⟨k, List.mem_range.2 hk, ?_⟩
    unfold RTab.plcAt
    rw [pl_is hi]
    simp [hi]
theorem all_per {r : RTab} (h : Pers r) (ch : Nat → List (Int × Int)) : ∀ p ∈ r.all ch, 1 ≤ p.x.per ∧ p.x.per ≤ 4294967296 := fun p hp => by
  obtain ⟨k, hk, hi, rfl⟩ := all_mem.1 hp
  have := h k hi
  show 1 ≤ (r.pl ((k : Nat) : Int).toNat).per ∧ (r.pl ((k : Nat) : Int).toNat).per ≤ 4294967296
  rw [Int.toNat_natCast]; exact this
theorem all_len (r : RTab) (ch : Nat → List (Int × Int)) : (r.all ch).length ≤ r.L.length := allTo_len r ch _
/-- All, told by the code, of what the document's table is. -/
theorem All_any {w : World} {c M : Nat} {S : List Nat} {t : Tab Dm} {r : RTab} {ch : Nat → List (Int × Int)} (h : DomAt w c S t) (sm : Sim M t r ch) :
    Calls Try.prog 25 #[ptr c] w fun e W' => ∃ A cc, e = .returned (.slice A (r.all ch).length cc) ∧ Row W' 90 13 (.slice A (r.all ch).length cc) (r.all ch).length (plcCells (r.all ch)) ∧ (∀ k ∈ foot (.slice A (r.all ch).length cc), w.heap.size ≤ k) ∧ Chg [] w W' := by
  have := allD_any h (N := r.L.length) sm.size
  rw [sm.all] at this
  exact this.mono fun e W' ⟨A, cc, h1, h2, h3, h4⟩ => ⟨A, cc, h1, h2, h3, Chg.of_below h4⟩
/-- The next time at which a period begins. -/
def nextR (r : RTab) (ch : Nat → List (Int × Int)) (now : Int) : Option Int := minF (tellN now) (r.all ch)
set_option maxRecDepth 100000 in
theorem Next_any {w : World} {c M : Nat} {S : List Nat} {t : Tab Dm} {r : RTab} {ch : Nat → List (Int × Int)} (h : DomAt w c S t) (sm : Sim M t r ch) (hp : Pers r) {now : Int} (n0 : 0 ≤ now) (n1 : now < 18446744073709551616) :
    Calls Try.prog 20 #[ptr c, .int .u64 now] w fun e w' => e = .returned (.tuple #[.int .u64 (oInt (nextR r ch now)), .bool (nextR r ch now).isSome]) ∧ Chg [] w w' := by
  have HA := Lib.hid (fun W (hW : Chg [] w W) => All_any (h.quiet hW) sm)
  have hn := sm.held.n1
  have hl := all_len r ch
  have hI := all_per hp ch
  unfold nextR
  obtain ⟨l, hl0⟩ : ∃ l, l = r.all ch := ⟨_, rfl⟩
  rw [← hl0] at HA hl hI ⊢
  have HL := Lib.hid (fun W (hB : Blk W w.heap.size 22 #[.int .u64 now]) A cc (hR : Row W 90 13 (.slice A l.length cc) l.length (plcCells l)) => least_next hB n0 n1 hR (by omega) (fun p hp => by have := hI p hp; omega))
  clear hl0 hI sm h hp
  go_enter Try.func20, Try.ntmps20
  go_wp2_with (first
    | (go_at_call 25; refine (HA.out _ (((Chg.refl _ _).alloc _))).mono ?_; rintro e w1 ⟨A, cc, rfl, hr, _, hc⟩; have HR := Lib.hid hr; have HB := Lib.hid ((Blk.new w 22 #[.int .u64 now]).chg hc (by simp)); have HC1 := Lib.hid (((Chg.refl [] w).alloc _).then hc); clear hr hc)
    | (go_at_call 45; refine (HL.out _ HB.out A cc HR.out).mono ?_; rintro e w2 ⟨rfl, hc⟩; have HC2 := Lib.hid (HC1.out.then hc); clear hc))
  go_ret2
  exact ⟨rfl, HC2.out⟩

/-! ### Periods that begin -/
def beginsQ (now : Int) (p : Plc) : Bool := decide (now % p.x.per = 0)
def begunL (now : Int) (l : List Plc) : List (Int × Int) := (l.filter (beginsQ now)).map (fun p => (p.i, p.q))
theorem begunL_yes {now : Int} {l : List Plc} {p : Plc} (h : beginsQ now p = true) : begunL now (l ++ [p]) = begunL now l ++ [(p.i, p.q)] := by
  unfold begunL; rw [List.filter_append, List.map_append]; simp [h]
theorem begunL_no {now : Int} {l : List Plc} {p : Plc} (h : beginsQ now p = false) : begunL now (l ++ [p]) = begunL now l := by
  unfold begunL; rw [List.filter_append, List.map_append]; simp [h]
theorem begunL_len (now : Int) (l : List Plc) : (begunL now l).length ≤ l.length := by
  unfold begunL; rw [List.length_map]; exact List.length_filter_le _ _
def RTab.clearK (r : RTab) (k : Nat) : RTab := r.set1 k (r.pl k).own 0
def clearR (L : List (Int × Int)) (r : RTab) : RTab := L.foldl (fun r x => r.clearK x.1.toNat) r
theorem clearR_snoc (L : List (Int × Int)) (x : Int × Int) (r : RTab) : clearR (L ++ [x]) r = (clearR L r).clearK x.1.toNat := by unfold clearR; rw [List.foldl_append]; rfl
theorem Sim.clearK {M : Nat} {t : Tab Dm} {r : RTab} {ch : Nat → List (Int × Int)} (h : Sim M t r ch) {k : Nat} (hk : (r.pl k).is = true) : Sim M (t.upd (k : Nat) (r.pl k).gen (fun x => { x with used := 0 })) (r.clearK k) ch :=
  h.usedTo hk _ _ (fun x hx => rfl) (by omega) (by omega)
/-- The document's table behind Reset. -/
def resetR (r : RTab) (ch : Nat → List (Int × Int)) (now : Int) : RTab := clearR (begunL now (r.all ch)) r
end Go.Proofs
end
