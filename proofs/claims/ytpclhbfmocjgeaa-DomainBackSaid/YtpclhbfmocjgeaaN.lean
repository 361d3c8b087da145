import Derived.Test.YtpclhbfmocjgeaaM12
import Derived.Test.YtpclhbfmocjgeaaM11
section
namespace Go.Proofs
open Go.RowKit Go.Shelf
set_option linter.unusedVariables false
set_option linter.unusedSimpArgs false
theorem kids_zero {r : RTab} {i q : Int} (h : ∀ c, kidQ (r.pl c) i q = false) : ((r.kids i q).length : Int) = 0 := by
  rw [kids_eq]
  exact sumN_zero _ (fun k _ => by rw [h k]; simp)
/-- Merge of a child that came just now: the domains are told as before it. -/
theorem merge_back {w : World} {c h M : Nat} {S S2 : List Nat} {t : Tab Dm} {r : RTab} {ch : Nat → List (Int × Int)} (P : Pair w c S h S2 M t r ch) (hM : M + 1 ≤ 1000) {r0 : RTab} {ch0 : Nat → List (Int × Int)} {t0 : Tab Dm} {f k M0 : Nat} {gs cpu per : Int} (h0 : r0.Held M0 ch0) (hg : Gets t0 r0 f) (hk0 : (r0.pl k).is = true) (e1 : r = r0.on (k : Nat) (r0.pl k).gen gs cpu per) (e2 : ch = chOn r0 ch0 f (ch0 k)) :
    Calls Try.prog 18 #[ptr c, .agg #[.int .i64 (f : Nat), .int .u64 (r0.pl f).gen]] w fun e w1 => e = .returned (.int .i64 0) ∧ Chg S w w1 ∧ ∃ S' t', DomAt w1 c S' t' ∧ (∀ k ∈ S', k ∈ S ∨ w.heap.size ≤ k) ∧ t'.size = (r0.L.length : Nat) ∧ nowL t' r0.L.length = r0.all ch0 := by
  have ha0 := hg.at0
  have hfl := hg.lt
  have hfi := hg.is
  have hkf : k ≠ f := by rintro rfl; rw [hfi] at hk0; cases hk0
  have hkl := is_lt hk0
  have hpf : r.pl f = ⟨(r0.pl f).gen, true, gs, cpu, per, (k : Nat), (r0.pl k).gen, 0, 0⟩ := by rw [e1, on_pl ha0 hfl, if_pos rfl]
  have hl1 : r.L.length = r0.L.length := by rw [e1, on_len]
  have hgen : (r.pl f).gen = (r0.pl f).gen := by rw [hpf]
  have h1 : (r.pl f).is = true := by rw [hpf]
  have hgk := (h0.nums k hkl).2.2.2.2
  have hp : (r.pl f).pg ≠ 0 := by rw [hpf]; dsimp only; omega
  have fz := fresh_zero h0 hfl hfi
  have hl0 : r.live ch (f : Nat) (r.pl f).gen = 0 := by rw [hgen, e1, e2, on_live ha0 hfl hfi]; exact fz.2
  have hk0' : (r.kids (f : Nat) (r.pl f).gen).length = 0 := by
    have : ((r.kids (f : Nat) (r.pl f).gen).length : Int) = 0 := by
      rw [hgen, e1, on_kids ha0 hfl hfi, kids_zero fz.1, if_neg (by omega)]; rfl
    omega
  rw [← hgen]
  have hk : f < r.L.length := by omega
  have hq : r.is (f : Nat) (r.pl f).gen = true := is_pl.2 ⟨f, rfl, hk, h1, rfl⟩
  have hat := P.sim.at_ hq
  have hgen2 := (P.sim.held.nums f hk).2.2.2.2
  have hm := P.sim.held.m
  have hn1 := P.sim.held.n1
  have he : mergeE t (f : Nat) (r.pl f).gen = 0 := by
    unfold mergeE
    rw [P.sim.has, hq, hat]
    simp only [if_true]
    have e1 : (r.get ch (f : Nat) (r.pl f).gen).pg = (r.pl f).pg ∧ (r.get ch (f : Nat) (r.pl f).gen).live = r.live ch (f : Nat) (r.pl f).gen ∧ (r.get ch (f : Nat) (r.pl f).gen).ch = (r.kids (f : Nat) (r.pl f).gen).length := by unfold RTab.get; simp
    rw [e1.1, e1.2.1, e1.2.2, if_neg hp, if_neg (by omega)]
  rcases P.sim.held.up f h1 with hu | ⟨_, hu⟩
  · exact absurd hu.2 hp
  obtain ⟨j, ej, hj, hj1, ejg⟩ := is_pl.1 hu
  have hno := no_kids hk0'
  have hjk : j ≠ f := by
    rintro rfl
    have := hno j
    rw [kidQ_iff.2 ⟨h1, ej, ejg.symm⟩] at this; cases this
  have epi : (t.at_ (f : Nat) (r.pl f).gen).pi = (j : Nat) ∧ (t.at_ (f : Nat) (r.pl f).gen).pg = (r.pl j).gen ∧ (t.at_ (f : Nat) (r.pl f).gen).cpu = (r.pl f).cpu := by
    rw [hat]; unfold RTab.get; simp only [Int.toNat_natCast]; exact ⟨ej, ejg.symm, trivial⟩
  have hisj : r.is (j : Nat) (r.pl j).gen = true := is_pl.2 ⟨j, rfl, hj, hj1, rfl⟩
  have hks : f < t.spots.length := by
    obtain ⟨s, hs, _⟩ := has_iff.1 (by rw [P.sim.has]; exact hq : t.has (f : Nat) (r.pl f).gen = true)
    exact (List.getElem?_eq_some_iff.1 (live_nat.1 hs).1).1
  refine (Merge_ok P.dm P.sim.oks (by omega) (by omega) he (by rw [topG_val]; omega) ?_ ?_).mono ?_
  · rw [epi.1, epi.2.1, Int.toNat_natCast, drop_has hks, if_neg (by omega), P.sim.has]; exact hisj
  · rw [epi.1, epi.2.1, epi.2.2, P.sim.at_ hisj]
    show (r.pl f).cpu ≤ r.car (j : Nat) (r.pl j).gen
    rw [car_eq]
    have := sumN_ge (f := fun c => if kidQ (r.pl c) (j : Nat) (r.pl j).gen = true then (r.pl c).cpu else 0) hk (fun c hc => by have := (P.sim.held.nums c hc).2.2.1; split <;> omega)
    rw [if_pos (kidQ_iff.2 ⟨h1, ej, ejg.symm⟩)] at this
    exact this
  · rintro e w1 ⟨rfl, hT⟩
    have hS := P.sim.off hM h1 hl0 hk0'
    obtain ⟨S', hD, hSS, hc⟩ := hT
    have hsz : (r.off f).L.length = r0.L.length := by rw [off_len, hl1]
    refine ⟨rfl, hc, S', _, hD, hSS, by rw [hS.size, hsz], ?_⟩
    have := hS.all
    rw [hsz] at this
    rw [this, e1, e2]
    exact back_all h0 hg (by have := P.sim.held; rw [e1, e2] at this; exact this)
/-- A box of acts turns: the game doesn't. -/
theorem Game.box36 {w w1 : World} {G c h M : Nat} {S S2 : List Nat} {V : Value} {rs : List (Int × Int)} {t : Tab Dm} {r : RTab} {ch : Nat → List (Int × Int)} (g : Game w G c S h S2 V rs M t r ch) {B : Nat} {cs : Array Value} (hB : Blk w B 36 cs) (hc : Chg [B] w w1) : Game w1 G c S h S2 V rs M t r ch := by
  have hn := g.pair.dm.ne_ty hB (by decide) (by decide) (by decide) (by decide)
  have hn2 := g.pair.rf.not_box hB (by decide) (by decide) (by decide)
  have hG : G ≠ B := by
    rintro rfl
    exact absurd rfl (Blk.ty g.blk hB (by decide))
  exact { g with
    pair := ⟨g.pair.dm.chg hc (by simp; rintro rfl; exact hn List.mem_cons_self) (fun k hk => by simp; rintro rfl; exact hn (List.mem_cons_of_mem _ hk)), g.pair.rf.chg hc (fun k hk => by simp; rintro rfl; exact hn2 hk), g.pair.sim, g.pair.ap⟩
    blk := g.blk.chg hc (by simpa using hG)
    row := g.row.chg hc (fun k hk hm => by simp at hm; subst hm; exact g.row.ty hB (by decide) hk) }
end Go.Proofs
end
