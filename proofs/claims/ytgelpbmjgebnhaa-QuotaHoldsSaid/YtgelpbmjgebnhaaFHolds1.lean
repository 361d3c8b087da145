import Derived.Test.YtgelpbmjgebnhaaM11
import Derived.Laws.MakeOwn
section
namespace Go.Proofs
open Go.RowKit Go.Shelf
set_option linter.unusedVariables false
set_option linter.unusedSimpArgs false

/-- The next time: one begins then, and none between. -/
theorem next_some {M : Nat} {r : RTab} {ch : Nat → List (Int × Int)} (hh : r.Held M ch) (h0 : (r.pl 0).is = true) (hp : Pers r) {now : Int} (n0 : 0 ≤ now) (n1 : now ≤ 1152921504606846976) :
    ∃ at_, nextR r ch now = some at_ ∧ now < at_ ∧ at_ < 18446744073709551616 ∧ 1 ≤ (begunL at_ (r.all ch)).length ∧ ∀ b, now < b → b < at_ → begunL b (r.all ch) = [] := by
  have hI := all_per hp ch
  have hroot : (⟨((0 : Nat) : Int), (r.pl 0).gen, r.get ch ((0 : Nat) : Int) (r.pl 0).gen⟩ : Plc) ∈ r.all ch := all_mem.2 ⟨0, is_lt h0, h0, rfl⟩
  have htell : ∀ p ∈ r.all ch, tellN now p = some (now - now % p.x.per + p.x.per) := fun p hm => by
    obtain ⟨a, b⟩ := hI p hm
    obtain ⟨c, d, e⟩ := mod_bd n0 a
    unfold tellN nextP; rw [if_pos (by omega)]
  obtain ⟨m, hm, _⟩ := minF_one hroot (htell _ hroot)
  obtain ⟨⟨p, hpm, hpt⟩, hle⟩ := (minF_iff _ _ _).1 hm
  have hpa := hI p hpm
  have hpb := mod_bd n0 hpa.1
  rw [htell p hpm] at hpt
  have hme : now - now % p.x.per + p.x.per = m := Option.some.inj hpt
  refine ⟨m, hm, by omega, by omega, ?_, fun b hb1 hb2 => ?_⟩
  · have hz : m % p.x.per = 0 := by
      have h1 := Int.mul_ediv_add_emod now p.x.per
      have : m = p.x.per * (now / p.x.per + 1) := by rw [Int.mul_add, Int.mul_one]; omega
      rw [this]; exact Int.mul_emod_right _ _
    have hin : (p.i, p.q) ∈ begunL m (r.all ch) := by
      unfold begunL
      exact List.mem_map.2 ⟨p, List.mem_filter.2 ⟨hpm, by unfold beginsQ; exact decide_eq_true hz⟩, rfl⟩
    exact List.length_pos_of_mem hin
  · rw [List.eq_nil_iff_forall_not_mem]
    intro x hx
    unfold begunL at hx
    obtain ⟨y, hy, _⟩ := List.mem_map.1 hx
    obtain ⟨hy1, hy2⟩ := List.mem_filter.1 hy
    unfold beginsQ at hy2
    have hy3 : b % y.x.per = 0 := of_decide_eq_true hy2
    have hya := hI y hy1
    have hyl := hle y hy1 _ (htell y hy1)
    -- b is a whole number of periods, above now: so at least the next one
    have h1 := Int.mul_ediv_add_emod now y.x.per
    have h2 := Int.mul_ediv_add_emod b y.x.per
    have hyb := mod_bd n0 hya.1
    have h3 : now / y.x.per < b / y.x.per := by
      by_cases h : now / y.x.per < b / y.x.per
      · exact h
      · exfalso
        have h4 : y.x.per * (b / y.x.per) ≤ y.x.per * (now / y.x.per) := Int.mul_le_mul_of_nonneg_left (by omega) (by omega)
        omega
    have h5 : y.x.per * (now / y.x.per + 1) ≤ y.x.per * (b / y.x.per) := Int.mul_le_mul_of_nonneg_left (by omega) (by omega)
    rw [Int.mul_add, Int.mul_one] at h5
    omega
theorem CAt.copy {w W : World} {c M : Nat} {r : RTab} {ch : Nat → List (Int × Int)} (H : CAt w W c M r ch) : Calls Try.prog 29 #[ptr c] W fun e W' => ∃ o, e = .returned (ptr o) ∧ CAt W W' o M r ch := by
  obtain ⟨h1, S, t, h2, h3, h4⟩ := H
  refine (Copy_any h2).mono ?_
  rintro e W' ⟨o, S2, rfl, hD, hn, hc⟩
  exact ⟨o, rfl, hc, S2, t, hD, h3, hn⟩
theorem MadeAt.code {w W : World} {c h N : Nat} {V : Value} {rs : List (Int × Int)} (H : MadeAt w W c h N V rs) : ∃ r ch, CAt w W c (N + 1) r ch ∧ Row W 34 2 V rs.length (refCells rs) ∧ Refs r rs ∧ Pers r ∧ NoUse r ∧ ((r.pl 0).is = true ∧ (r.pl 0).gen = 1) ∧ N + 1 ≤ 1000 := by
  obtain ⟨S, S2, t, r, ch, hp, h2, h3, h4, h5, h6, h7, h8, h9⟩ := H
  exact ⟨r, ch, ⟨h4, S, t, hp.dm, hp.sim, fun k hk => h3 k (List.mem_append_right _ (List.mem_append_left _ hk))⟩, h2, h5, h7, h8, h9, hp.sim.held.m⟩
set_option maxHeartbeats 6400000 in
set_option maxRecDepth 100000 in
theorem next_any (cpu per : Int) (hcp : 0 ≤ cpu) (hpp : 0 ≤ per) (V1 : Value) (l : List CarvC) (now between : Int) (n0 : 0 ≤ now) (n1 : now < 18446744073709551616) (b0 : 0 ≤ between) (b1 : between < 18446744073709551616) (w : World) (hV1 : Carvs w V1 l) :
    Calls Try.prog 6 #[.int .u64 cpu, .int .u64 per, V1, .int .u64 now, .int .u64 between] w fun e w' => e = .returned (.bool true) ∧ Chg [] w w' := by
  have HM := Lib.hid (made_any cpu per hcp hpp V1 l w w hV1 (Chg.refl _ _))
  have HK := Lib.hid known_any
  clear hV1
  go_enter Try.func6, Try.ntmps6
  go_wp2_with (fail)
  refine HM.out.mono ?_
  rintro e w1 (⟨rfl, hc⟩ | ⟨c, h, N, V, rs, rfl, hN, hM⟩)
  · have HC := Lib.hid hc
    clear hc
    go_wp2_with (go_at_call 9; refine (HK.out _).mono ?_; rintro e w2 ⟨rfl, hc⟩)
    go_ret
    exact ⟨rfl, HC.out.then hc⟩
  by_cases hbig : 1152921504606846976 < now
  · have d1 : decide (now > 1152921504606846976) = true := by simpa using hbig
    have d2 : decide (1152921504606846976 < now) = true := by simpa using hbig
    have HC := Lib.hid hM.chg
    clear hM
    go_wp2_with (go_at_call 9; refine (HK.out _).mono ?_; rintro e w2 ⟨rfl, hc⟩)
    go_ret
    exact ⟨rfl, HC.out.then hc⟩
  have d1 : decide (now > 1152921504606846976) = false := decide_eq_false hbig
  have d2 : decide (1152921504606846976 < now) = false := decide_eq_false hbig
  obtain ⟨r, ch, hC, _, _, hP, _, h0, _⟩ := hM.code
  obtain ⟨a, ha, ha1, ha2, ha3, ha4⟩ := next_some hC.held h0.1 hP n0 (by omega)
  have HNX := Lib.hid (fun W (H : CAt w W c (N + 1) r ch) => by have := H.next hP n0 n1; rw [ha] at this; exact this)
  have HCP := Lib.hid (fun W (H : CAt w W c (N + 1) r ch) => H.copy)
  have HRS := Lib.hid (fun w W o x (x0 : 0 ≤ x) (x1 : x < 18446744073709551616) (H : CAt w W o (N + 1) r ch) => H.reset hP x0 x1)
  have HD := Lib.hid hC
  obtain ⟨ln, hln⟩ : ∃ ln, ln = (begunL a (r.all ch)).length := ⟨_, rfl⟩
  rw [← hln] at ha3
  have HLN := Lib.hid hln
  have e1 : ((ln : Int) == 0) = false := by have : ¬ (ln : Int) = 0 := by omega
                                            simpa using this
  have e1' : (ln == 0) = false := by have : ¬ ln = 0 := by omega
                                     simpa using this
  have e2 : decide (a ≤ now) = false := decide_eq_false (by omega)
  have HBW := Lib.hid ha4
  have a0 : 0 ≤ a := by omega
  clear ha4 hC h0 hP hM ha hln hN
  by_cases hb1 : now < between
  · have d3 : decide (now < between) = true := decide_eq_true hb1
    have d3' : decide (between > now) = true := decide_eq_true hb1
    by_cases hb2 : between < a
    · have d4 : decide (between < a) = true := decide_eq_true hb2
      have HE := Lib.hid (HBW.out between hb1 hb2)
      go_wp2_with (first
        | (go_at_call 20; refine (HNX.out _ HD.out).mono ?_; rintro e w2 ⟨rfl, hc⟩; have HD2 := Lib.hid (HD.out.quiet hc); clear hc)
        | (go_at_call 29; refine (HCP.out _ HD2.out).mono ?_; rintro e w3 ⟨o, rfl, ho⟩; have HO := Lib.hid ho; clear ho)
        | (go_at_call 15; refine (HRS.out _ _ _ _ b0 b1 HD4.out).mono ?_; rintro e w5 ⟨A5, c5, rfl, _, _, h5, _⟩; have HZ := Lib.hid h5.chg; have hz5 : begunL between (r.all ch) = [] := HE.out; simp only [hz5]; clear h5)
        | (go_at_call 15; refine (HRS.out _ _ _ _ a0 ha2 HO.out).mono ?_; rintro e w4 ⟨A4, c4, rfl, _, _, h4, _⟩; have HD4 := Lib.hid (HD2.out.quiet h4.chg); have hln4 := HLN.out; rw [← hln4]; clear h4 hln4)
        | (go_at_call 9; refine (HK.out _).mono ?_; rintro e w6 ⟨rfl, hc⟩; have HY := Lib.hid (HZ.out.then hc); clear hc))
      go_ret
      exact ⟨rfl, HY.out⟩
    · have d4 : decide (between < a) = false := decide_eq_false hb2
      go_wp2_with (first
        | (go_at_call 20; refine (HNX.out _ HD.out).mono ?_; rintro e w2 ⟨rfl, hc⟩; have HD2 := Lib.hid (HD.out.quiet hc); clear hc)
        | (go_at_call 29; refine (HCP.out _ HD2.out).mono ?_; rintro e w3 ⟨o, rfl, ho⟩; have HO := Lib.hid ho; clear ho)
        | (go_at_call 15; refine (HRS.out _ _ _ _ a0 ha2 HO.out).mono ?_; rintro e w4 ⟨A4, c4, rfl, _, _, h4, _⟩; have HD4 := Lib.hid (HD2.out.quiet h4.chg); have hln4 := HLN.out; rw [← hln4]; clear h4 hln4)
        | (go_at_call 9; refine (HK.out _).mono ?_; rintro e w6 ⟨rfl, hc⟩; have HY := Lib.hid (HD4.out.chg.then hc); clear hc))
      go_ret
      exact ⟨rfl, HY.out⟩
  · have d3 : decide (now < between) = false := decide_eq_false hb1
    have d3' : decide (between > now) = false := decide_eq_false hb1
    go_wp2_with (first
      | (go_at_call 20; refine (HNX.out _ HD.out).mono ?_; rintro e w2 ⟨rfl, hc⟩; have HD2 := Lib.hid (HD.out.quiet hc); clear hc)
      | (go_at_call 29; refine (HCP.out _ HD2.out).mono ?_; rintro e w3 ⟨o, rfl, ho⟩; have HO := Lib.hid ho; clear ho)
      | (go_at_call 15; refine (HRS.out _ _ _ _ a0 ha2 HO.out).mono ?_; rintro e w4 ⟨A4, c4, rfl, _, _, h4, _⟩; have HD4 := Lib.hid (HD2.out.quiet h4.chg); have hln4 := HLN.out; rw [← hln4]; clear h4 hln4)
      | (go_at_call 9; refine (HK.out _).mono ?_; rintro e w6 ⟨rfl, hc⟩; have HY := Lib.hid (HD4.out.chg.then hc); clear hc))
    go_ret
    exact ⟨rfl, HY.out⟩
end Go.Proofs
end
section
namespace Go.Proofs
open Go.RowKit Go.Shelf
set_option linter.unusedVariables false
set_option linter.unusedSimpArgs false

/-! ### What charging one leaves -/
theorem Refs.like' {r r' : RTab} {rs : List (Int × Int)} (h : Refs r rs) (hl : Like r r') : Refs r' rs := fun x hx => by
  obtain ⟨k, rfl, a, b⟩ := h x hx
  exact ⟨k, by rw [hl.gen], by rw [hl.len]; exact a, by rw [hl.is]; exact b⟩
theorem useR_pl {r : RTab} (L : List (Int × Int)) : Refs r L → L.Nodup → ∀ j : Nat, (useR L r).pl j = if (((j : Nat) : Int), (r.pl j).gen) ∈ L then { r.pl j with used := addS (r.pl j).used 1 } else r.pl j := by
  refine snoc_rec (P := fun L => Refs r L → L.Nodup → ∀ j : Nat, (useR L r).pl j = if (((j : Nat) : Int), (r.pl j).gen) ∈ L then { r.pl j with used := addS (r.pl j).used 1 } else r.pl j) (fun _ _ j => by simp [useR]) (fun L x ih h hn j => ?_) L
  obtain ⟨hn1, _, hn3⟩ := List.nodup_append.1 hn
  have hL : Refs r L := fun y hy => h y (List.mem_append_left _ hy)
  have ih := ih hL hn1
  obtain ⟨k, rfl, hk, hi⟩ := h x (List.mem_append_right _ (List.mem_singleton.2 rfl))
  have hxL : (((k : Nat) : Int), (r.pl k).gen) ∉ L := fun hm => hn3 _ hm _ (List.mem_singleton.2 rfl) rfl
  have hlen : (useR L r).L.length = r.L.length := (useR_like (M := 0) (ch := fun _ => []) L (fun y hy => by obtain ⟨m, rfl, hm, _⟩ := hL y hy; exact hm)).len
  rw [useR_snoc, Int.toNat_natCast]
  unfold RTab.useK
  rw [set1_pl (by rw [hlen]; exact hk)]
  have hk0 : (useR L r).pl k = r.pl k := by rw [ih k, if_neg hxL]
  by_cases e : j = k
  · subst e
    rw [if_pos rfl, hk0, if_pos (List.mem_append_right _ (List.mem_singleton.2 rfl))]
  · rw [if_neg e, ih j]
    by_cases hm : (((j : Nat) : Int), (r.pl j).gen) ∈ L
    · rw [if_pos hm, if_pos (List.mem_append_left _ hm)]
    · rw [if_neg hm, if_neg (fun hx => by
        rcases List.mem_append.1 hx with hx | hx
        · exact hm hx
        · rw [List.mem_singleton] at hx
          have := congrArg Prod.fst hx
          simp only at this
          omega)]
theorem left_use {p : Pl} (hc : p.cpu ≤ 4294967296) (h : 0 < p.left) : ({ p with used := addS p.used 1 } : Pl).left = p.left - 1 ∧ addS p.used 1 = p.used + 1 ∧ p.used < p.cpu := by
  unfold Pl.left subS at h
  by_cases h1 : p.cpu < p.used
  · rw [if_pos h1] at h; omega
  · rw [if_neg h1] at h
    have h2 : addS p.used 1 = p.used + 1 := by unfold addS; rw [if_pos (by omega)]
    refine ⟨?_, h2, by omega⟩
    show subS p.cpu (addS p.used 1) = subS p.cpu p.used - 1
    rw [h2]
    unfold subS
    rw [if_neg (by omega), if_neg h1]
    omega
section
variable {M : Nat} {r : RTab} {ch : Nat → List (Int × Int)} {L L2 : List (Int × Int)}
theorem tellR_ref (hL : Refs r L) : ∀ x ∈ L, tellR r x = some (r.pl x.1.toNat).left := fun x hx => by
  obtain ⟨k, rfl, hk, hi⟩ := hL x hx
  unfold tellR
  rw [if_pos (is_pl.2 ⟨k, rfl, hk, hi, rfl⟩)]
theorem leftR_spec (hL : Refs r L) (hne : L ≠ []) : (∃ x ∈ L, leftR r L = (r.pl x.1.toNat).left) ∧ ∀ x ∈ L, leftR r L ≤ (r.pl x.1.toNat).left := by
  cases L with
  | nil => exact absurd rfl hne
  | cons y l =>
    obtain ⟨m, hm, _⟩ := minF_one (List.mem_cons_self) (tellR_ref hL y List.mem_cons_self)
    obtain ⟨⟨x, hx, e⟩, hle⟩ := (minF_iff _ _ _).1 hm
    unfold leftR
    rw [hm]
    rw [tellR_ref hL x hx] at e
    exact ⟨⟨x, hx, (Option.some.inj e).symm⟩, fun z hz => hle z hz _ (tellR_ref hL z hz)⟩
theorem leftR_pos (hL : Refs r L) (hp : 0 < leftR r L) : L ≠ [] ∧ ∀ x ∈ L, 0 < (r.pl x.1.toNat).left := by
  have hne : L ≠ [] := fun e => by subst e; have : leftR r [] = 0 := rfl; omega
  exact ⟨hne, fun x hx => by have := (leftR_spec hL hne).2 x hx; omega⟩
/-- What is used of each one is one more behind a charge, or as it was. -/
theorem use_left (hh : r.Held M ch) (hL : Refs r L) (nd : L.Nodup) (hp : 0 < leftR r L) (k : Nat) (hk : k < r.L.length) :
    ((useR L r).pl k).left = if (((k : Nat) : Int), (r.pl k).gen) ∈ L then (r.pl k).left - 1 else (r.pl k).left := by
  rw [useR_pl L hL nd k]
  by_cases hm : (((k : Nat) : Int), (r.pl k).gen) ∈ L
  · rw [if_pos hm, if_pos hm]
    have := (leftR_pos hL hp).2 _ hm
    rw [Int.toNat_natCast] at this
    exact (left_use (hh.nums k hk).2.2.1.2 this).1
  · rw [if_neg hm, if_neg hm]
theorem less_other (hh : r.Held M ch) (hL : Refs r L) (nd : L.Nodup) (hp : 0 < leftR r L) (hL2 : Refs r L2) : leftR (useR L r) L2 ≤ leftR r L2 := by
  by_cases hne : L2 = []
  · subst hne; exact Int.le_refl _
  · have hlk := useR_like (r := r) (M := M) (ch := ch) L (fun y hy => by obtain ⟨m, rfl, hm, _⟩ := hL y hy; exact hm)
    obtain ⟨x, hx, e⟩ := (leftR_spec hL2 hne).1
    have h1 := (leftR_spec (hL2.like' hlk) hne).2 x hx
    obtain ⟨k, rfl, hk, _⟩ := hL2 x hx
    rw [Int.toNat_natCast] at h1 e
    rw [use_left hh hL nd hp k hk] at h1
    split at h1 <;> omega
theorem less_same (hh : r.Held M ch) (hL : Refs r L) (nd : L.Nodup) (hp : 0 < leftR r L) : leftR (useR L r) L = leftR r L - 1 := by
  obtain ⟨hne, _⟩ := leftR_pos hL hp
  have hlk := useR_like (r := r) (M := M) (ch := ch) L (fun y hy => by obtain ⟨m, rfl, hm, _⟩ := hL y hy; exact hm)
  have hall : ∀ x ∈ L, ((useR L r).pl x.1.toNat).left = (r.pl x.1.toNat).left - 1 := fun x hx => by
    obtain ⟨k, rfl, hk, _⟩ := hL x hx
    rw [Int.toNat_natCast, use_left hh hL nd hp k hk, if_pos hx]
  obtain ⟨⟨x, hx, ex⟩, hlx⟩ := leftR_spec hL hne
  obtain ⟨⟨y, hy, ey⟩, hly⟩ := leftR_spec (hL.like' hlk) hne
  have h1 := hlx y hy
  have h2 := hly x hx
  rw [hall x hx] at h2
  rw [hall y hy] at ey
  omega
theorem up_refs {i q : Int} (hU : Up r.par i q L) : Refs r L := fun x hx => by
  obtain ⟨k, e, a, b⟩ := hU.there x hx
  exact ⟨k, e, a, b⟩
end
end Go.Proofs
end
section
namespace Go.Proofs
open Go.RowKit Go.Shelf
set_option linter.unusedVariables false
set_option linter.unusedSimpArgs false

/-- Behind so many acts: the code's domains, and the refs. -/
def LessAt (w W : World) (c M : Nat) (ch : Nat → List (Int × Int)) (V : Value) (rs : List (Int × Int)) (r : RTab) : Prop :=
  CAt w W c M r ch ∧ Row W 34 2 V rs.length (refCells rs) ∧ Refs r rs
theorem chain_at {M : Nat} {r : RTab} {ch : Nat → List (Int × Int)} (h : r.Held M ch) {k : Nat} {g : Int} (hk : (r.pl k).is = true) (hg : (r.pl k).gen = g) : Up r.par (k : Nat) g (ch k) ∧ (ch k).length ≤ 1000 ∧ k ≤ 32 := by
  have := h.chs k hk
  have h1 := h.m
  have h2 := is_lt hk
  have h3 := h.n1
  rw [hg] at this
  exact ⟨this.1, by omega, by omega⟩
theorem leftR_le {M : Nat} {r : RTab} {ch : Nat → List (Int × Int)} (hh : r.Held M ch) (L : List (Int × Int)) : leftR r L ≤ 4294967296 := by
  unfold leftR
  cases hm : minF (tellR r) L with
  | none => simp
  | some n =>
    obtain ⟨⟨x, hx, e⟩, _⟩ := (minF_iff _ _ _).1 hm
    unfold tellR at e
    split at e
    · next hi =>
      obtain ⟨k, e1, hk, _⟩ := is_pl.1 hi
      cases e
      rw [e1, Int.toNat_natCast]
      exact (tellR_bd hh hk).2
    · cases e
theorem Try.u64_info : (Try.prog.info? 22).map (fun i => (i.zero, i.size, i.bytes)) = some (some (.int .u64 0), 1, 8) := by kernel_rfl
/-- make of numbers. -/
theorem make_nums (n : Nat) (hn : n ≤ 1000) (W : World) : ∃ cs : Array Value, cs.size = n ∧ (∀ i, i < n → cs[i]? = some (.int .u64 0)) ∧ (Instr.makeSlice 57 (.int .i64 (n : Nat)) (.int .i64 (n : Nat))).run Try.prog W = .ok (.slice (some ⟨W.heap.size, 0, none⟩) n n) (W.alloc (.cells cs 22)) := by
  obtain ⟨i0, hi0, hz0, hz1, hz2⟩ := info_parts Try.u64_info
  have h := run_make (P := Try.prog) W 57 22 i0 _ Try.underlying57 hi0 hz0 .i64 .i64 (n : Nat) (n : Nat) (by omega) (by omega) (by rw [hz2]; omega) (by omega)
  rw [hz1] at h
  simp only [Int.toNat_natCast, Nat.mul_one] at h
  refine ⟨_, ?_, fun i hi => ?_, h⟩
  · rw [size_madeCells]
  · show (madeCells #[Value.int .u64 0] n)[i]? = _
    rw [← Array.getElem?_toList, toList_madeCells_one, List.getElem?_replicate, if_pos hi]
set_option maxHeartbeats 12800000 in
set_option maxRecDepth 100000 in
theorem less_any (cpu per : Int) (hcp : 0 ≤ cpu) (hpp : 0 ≤ per) (V1 V2 : Value) (l : List CarvC) (acts : List ActQ) (at_ : Int) (w : World) (hV1 : Carvs w V1 l) (hV2 : ActsQ w V2 acts) :
    Calls Try.prog 5 #[.int .u64 cpu, .int .u64 per, V1, V2, .int .i64 at_] w fun e w' => e = .returned (.bool true) ∧ Chg [] w w' := by
  have HM := Lib.hid (made_any cpu per hcp hpp V1 l w w hV1 (Chg.refl _ _))
  have HK := Lib.hid known_any
  obtain ⟨A2, c2, rfl⟩ := hV2.open_
  obtain ⟨m, hm⟩ : ∃ m, m = acts.length := ⟨_, rfl⟩
  rw [← hm] at hV2 ⊢
  have HV := Lib.hid hV2
  clear hV1 hV2 hm
  go_enter Try.func5, Try.ntmps5
  go_wp2_with (fail)
  refine HM.out.mono ?_
  rintro e w1 (⟨rfl, hc⟩ | ⟨c, h, N, V, rs, rfl, hN, hM⟩)
  · have HC := Lib.hid hc
    clear hc
    go_wp2_with (go_at_call 9; refine (HK.out _).mono ?_; rintro e w2 ⟨rfl, hc⟩)
    go_ret
    exact ⟨rfl, HC.out.then hc⟩
  by_cases hbig : 60 < (m : Int)
  · have d1 : decide ((m : Int) > 60) = true := by simpa using hbig
    have d2 : decide (60 < (m : Int)) = true := by simpa using hbig
    have HC := Lib.hid hM.chg
    clear hM
    go_wp2_with (go_at_call 9; refine (HK.out _).mono ?_; rintro e w2 ⟨rfl, hc⟩)
    go_ret
    exact ⟨rfl, HC.out.then hc⟩
  have d1 : decide ((m : Int) > 60) = false := by simpa using hbig
  have d2 : decide (60 < (m : Int)) = false := by simpa using hbig
  obtain ⟨r0, ch, hC, hrow, hrefs, _, _, _, hN9⟩ := hM.code
  obtain ⟨A, cc, rfl, _⟩ := hrow.val
  have hlen : 1 ≤ rs.length ∧ rs.length ≤ N + 1 := by obtain ⟨_, _, _, _, _, _, _, _, _, _, hl, _⟩ := hM; exact hl
  have HP := Lib.hid (show LessAt w w1 c (N + 1) ch (.slice A rs.length cc) rs r0 from ⟨hC, hrow, hrefs⟩)
  obtain ⟨M, hMM⟩ : ∃ M, M = N + 1 := ⟨_, rfl⟩
  rw [← hMM] at HP hN9
  have hn1 : 1 ≤ rs.length := hlen.1
  have hnb : rs.length ≤ 1000 := by have := hlen.2; omega
  clear hM hC hrow hrefs hlen hMM hN
  go_wp2
  go_loopg [15] m (fun gh iv wr => ∃ (j : Nat) (r : RTab), j + gh = m ∧ iv = .int .i64 j ∧ Hid (LessAt w wr c M ch (.slice A rs.length cc) rs r))
  case atStart => exact ⟨0, r0, by omega, rfl, HP⟩
  case round =>
    obtain ⟨j, r, hj, rfl, HH⟩ := hrel
    by_cases hlt : j < m
    · have j0 : (0 : Int) ≤ (j : Int) := by omega
      have j1 : (j : Int) < (m : Int) := by omega
      obtain ⟨hD, hrow, hrefs⟩ := HH.out
      have hcw := hD.chg
      obtain ⟨bI, oI, a, hA, hat, hfit, hbI, hcells⟩ := HV.out.is_ hlt
      subst hA
      obtain ⟨kind, ak, nn⟩ := a
      obtain ⟨a0, a1, n0, n1⟩ := hfit
      simp only at a0 a1 n0 n1
      have HCL := Lib.hid (fun W (hW : Chg [] w W) => (⟨hcells W hW 0 _ rfl, hcells W hW 1 _ rfl, hcells W hW 2 _ rfl⟩ : W.cell? ⟨bI, oI + j * 3, none⟩ = some (.int .i64 kind) ∧ W.cell? ⟨bI, oI + j * 3 + 1, none⟩ = some (.int .i64 ak) ∧ W.cell? ⟨bI, oI + j * 3 + 2, none⟩ = some (.int .u64 nn)))
      obtain ⟨i0, i1, i2⟩ := HCL.out wr hcw
      have hbw : bI < wr.heap.size := by have := hcw.size; omega
      obtain ⟨k, hkn, ek, ek'⟩ := idx_of ak hn1 hnb
      have k0 : (0 : Int) ≤ (k : Int) := by omega
      have k1 : (k : Int) < (rs.length : Int) := by omega
      obtain ⟨y, hy⟩ : ∃ y, rs[k]? = some y := ⟨_, List.getElem?_eq_getElem hkn⟩
      obtain ⟨kk, rfl, hkl, hkis⟩ := hrefs y (List.mem_of_getElem? hy)
      obtain ⟨gr, cr, hv, hfo, _, hcell, _, lgr2⟩ := hrow.form (by omega)
      simp only [Value.slice.injEq] at hv
      obtain ⟨rfl, h91, h92⟩ := hv
      clear h91 h92
      obtain ⟨x0, x1⟩ := refCells_at hy
      have y0 := hcell _ _ x0
      have y1 := hcell _ _ x1
      obtain ⟨G, hG⟩ : ∃ G, G = (r.pl kk).gen := ⟨_, rfl⟩
      simp only at y0 y1
      rw [← hG] at y1
      obtain ⟨hU, hUL, hk32⟩ := chain_at hD.held hkis hG.symm
      have HCH := Lib.hid (fun W (hW : Chg [] wr W) => (hD.quiet hW).charge hU hUL (by omega) (by omega))
      have HUS := Lib.hid (fun W (hW : Chg [] wr W) (n : Int) (n0 : 0 ≤ n) (n1 : n < 18446744073709551616) => (hD.quiet hW).use hkis hG.symm n0 n1)
      have HLC := Lib.hid (hrefs.like' (chargeR_like (M := M) (ch := ch) hU))
      have HLU := Lib.hid (fun n => hrefs.like' (show Like r (r.useN kk n) from Like.set1 hkl _ _))
      have HROW := Lib.hid hrow
      have hm8 := mod_bd n0 (show (1 : Int) ≤ 8 by omega)
      obtain ⟨q, hq⟩ : ∃ q, q = nn % 8 := ⟨_, rfl⟩
      have eq1 : nn % 8 = q := hq.symm
      have eq2 : nn.tmod 8 = q := by rw [Int.tmod_eq_emod_of_nonneg n0]; exact hq.symm
      rw [← hq] at hm8
      obtain ⟨q0, q1, q2⟩ := hm8
      have eq3 : IntKind.u64.wrap q = q := by rw [IntKind.wrap_u64]; omega
      have hne1 : ¬ (gr = wr.heap.size) := by omega
      have hne2 : ¬ (bI = wr.heap.size) := by omega
      have hne3 : ¬ (wr.heap.size = bI) := by omega
      clear hD hrow hrefs hcw hy hkis hfo hcell x0 x1 hG hkl HH hcells hat hU hUL hq
      by_cases hk1 : kind = 1
      · have e1 : (kind == 1) = true := by simpa using hk1
        clear hk1
        go_wp2_with (first
          | (go_at_call 10; refine (HCH.out _ ((Chg.refl [] wr).alloc (.cells #[.int .i64 (kk : Nat), .int .u64 G] 34))).mono ?_; rintro e wz ⟨rfl, hd, hs⟩; have HD := Lib.hid hd; have HS := Lib.hid hs; clear hd hs))
        go_roundg (m - j - 1)
        case measure => omega
        case rel => exact ⟨j + 1, _, by omega, by go_num, Lib.hid ⟨HD.out, HS.out.row (HROW.out.alloc _), HLC.out⟩⟩
      · have e1 : (kind == 1) = false := by simpa using hk1
        clear hk1
        go_wp2
        go_region_held3 (fun w' => w'.cell? ⟨wr.heap.size, 0, none⟩ = some (.int .i64 (kk : Nat)) ∧ w'.cell? ⟨wr.heap.size, 1, none⟩ = some (.int .u64 G) ∧ w'.cell? ⟨bI, oI + j * 3 + 2, none⟩ = some (.int .u64 nn))
          (first | (go_keep; done))
          (first
            | (go_at_call 12; refine (HUS.out _ (((Chg.refl [] wr).alloc (.cells #[.int .i64 (kk : Nat), .int .u64 G] 34)).drew) q q0 (by omega)).mono ?_; rintro e wz ⟨rfl, hd, hs⟩; have HD := Lib.hid hd; have HS := Lib.hid hs; obtain ⟨_, _, t2⟩ := HCL.out _ hd.chg; have hbx := hs.blk ((Blk.new wr 34 #[.int .i64 (kk : Nat), .int .u64 G]).drew); have t0 : wz.cell? ⟨wr.heap.size, 0, none⟩ = some (.int .i64 (kk : Nat)) := hbx.cell 0; have t1 : wz.cell? ⟨wr.heap.size, 1, none⟩ = some (.int .u64 G) := hbx.cell 1; clear hd hs hbx))
        all_goals
          go_wp2
          go_roundg (m - j - 1)
          case measure => omega
          case rel => exact ⟨j + 1, _, by omega, by go_num, Lib.hid ⟨HD.out, HS.out.row ((HROW.out.alloc _).drew), HLU.out q⟩⟩
    · obtain ⟨wq, hwq⟩ : ∃ wq : World, wq = wr := ⟨_, rfl⟩
      subst hwq
      obtain ⟨hD, hrow, hrefs⟩ := HH.out
      obtain ⟨k, hkn, ek, ek'⟩ := idx_of at_ hn1 hnb
      have k0 : (0 : Int) ≤ (k : Int) := by omega
      have k1 : (k : Int) < (rs.length : Int) := by omega
      obtain ⟨y, hy⟩ : ∃ y, rs[k]? = some y := ⟨_, List.getElem?_eq_getElem hkn⟩
      obtain ⟨kk, rfl, hkl, hkis⟩ := hrefs y (List.mem_of_getElem? hy)
      obtain ⟨gr, cr, hv, hfo, _, hcell, _, lgr2⟩ := hrow.form (by omega)
      simp only [Value.slice.injEq] at hv
      obtain ⟨rfl, h91, h92⟩ := hv
      clear h91 h92
      obtain ⟨x0, x1⟩ := refCells_at hy
      have y0 := hcell _ _ x0
      have y1 := hcell _ _ x1
      obtain ⟨G, hG⟩ : ∃ G, G = (r.pl kk).gen := ⟨_, rfl⟩
      simp only at y0 y1
      rw [← hG] at y1
      obtain ⟨hU, hUL, hk32⟩ := chain_at hD.held hkis hG.symm
      have HU := Lib.hid hU
      have HUL := Lib.hid hUL
      have HDD := Lib.hid hD
      have HROW := Lib.hid hrow
      have HREFS := Lib.hid hrefs
      have HGG := Lib.hid hG
      obtain ⟨cs0, hcs0, _, hmk⟩ := make_nums rs.length hnb (wq.alloc (.cells #[.int .i64 (kk : Nat), .int .u64 G] 34))
      have HCS0 := Lib.hid hcs0
      clear hD hrow hrefs hy hkis hfo hcell x0 x1 hG hkl HH hU hUL hcs0
      obtain rfl : m = j := by omega
      go_wp2
      clear ek ek'
      go_loopg [19] rs.length (fun gh iv wy => ∃ (i : Nat) (cs : Array Value), i + gh = rs.length ∧ iv = .int .i64 i ∧ Hid (CAt w wy c M r ch ∧ Row wy 34 2 (.slice (some ⟨gr, 0, none⟩) rs.length cc) rs.length (refCells rs)) ∧ Hid (Blk wy wq.heap.size 34 #[.int .i64 (kk : Nat), .int .u64 G] ∧ Blk wy (wq.heap.size + 1) 22 cs ∧ cs.size = rs.length ∧ ∀ i' x, i' < i → rs[i']? = some x → cs[i']? = some (.int .u64 (leftR r (ch x.1.toNat)))))
      case atStart =>
        exact ⟨0, cs0, by omega, rfl, Lib.hid ⟨HDD.out.quiet (((Chg.refl [] wq).alloc _).alloc _), (HROW.out.alloc _).alloc _⟩, Lib.hid ⟨(Blk.new wq 34 #[.int .i64 (kk : Nat), .int .u64 G]).alloc _, Blk.at' _ 22 cs0 (by simp), HCS0.out, fun i' x hi => by omega⟩⟩
      case round =>
        obtain ⟨i, cs, hi, rfl, H1, H2⟩ := hrel
        obtain ⟨hD, hrow⟩ := H1.out
        obtain ⟨hb1, hb2, hsz, hcs⟩ := H2.out
        by_cases hil : i < rs.length
        · have i0 : (0 : Int) ≤ (i : Int) := by omega
          have i1 : (i : Int) < (rs.length : Int) := by omega
          obtain ⟨y, hy⟩ : ∃ y, rs[i]? = some y := ⟨_, List.getElem?_eq_getElem hil⟩
          obtain ⟨ki, rfl, hkl, hkis⟩ := HREFS.out y (List.mem_of_getElem? hy)
          obtain ⟨gr', cr, hv, hfo, _, hcell, _, lgr3⟩ := hrow.form (by omega)
          simp only [Value.slice.injEq, Option.some.injEq, Addr.mk.injEq] at hv
          obtain ⟨⟨rfl, h95⟩, h93, h94⟩ := hv
          clear h93 h94 h95
          obtain ⟨x0, x1⟩ := refCells_at hy
          have z0 := hcell _ _ x0
          have z1 := hcell _ _ x1
          obtain ⟨gi, hgi⟩ : ∃ gi, gi = (r.pl ki).gen := ⟨_, rfl⟩
          simp only at z0 z1
          rw [← hgi] at z1
          obtain ⟨hU2, hUL2, hk33⟩ := chain_at hD.held hkis hgi.symm
          have HLF := Lib.hid (hD.left hU2 hUL2 (by omega) (by omega))
          obtain ⟨lf, hlf⟩ : ∃ lf, lf = leftR r (ch ki) := ⟨_, rfl⟩
          rw [← hlf] at HLF
          obtain ⟨vo, hvo⟩ : ∃ vo, cs[i]? = some vo := ⟨_, Array.getElem?_eq_getElem (by rw [hsz]; exact hil)⟩
          have HYI := Lib.hid hy
          have HLL := Lib.hid hlf
          have HD := Lib.hid hD
          have HR := Lib.hid hrow
          have HVO := Lib.hid hvo
          clear hy hkis hfo hcell x0 x1 hgi hkl hU2 hUL2 hlf hD hrow hb1 hb2 hcs H1 hvo
          go_wp2_with (first
            | (go_at_call 22; refine HLF.out.mono ?_; rintro e v1 ⟨rfl, hc⟩; have hb2 := H2.out.2.1.chg hc (by simp); have z2 : v1.cell? ⟨wq.heap.size + 1, i, none⟩ = some vo := (hb2.cell i).trans HVO.out; have zf := hb2.frozen; have zl := hb2.lt; have HC := Lib.hid hc; clear hc hb2))
          go_roundg (rs.length - i - 1)
          case measure => omega
          case rel =>
            obtain ⟨hb1, hb2, hsz, hcs⟩ := H2.out
            have hcx : Chg [] w (v1.setCell ⟨wq.heap.size + 1, i, none⟩ (.int .u64 lf)) := (HD.out.chg.then HC.out).setCell (.inr (by have := HDD.out.chg.size; show w.heap.size ≤ wq.heap.size + 1; omega)) _
            have hB22 := hb2.chg HC.out (by simp)
            refine ⟨i + 1, cs.setIfInBounds i (.int .u64 lf), by omega, by go_num, Lib.hid ⟨?_, ?_⟩, Lib.hid ⟨?_, ?_, ?_, ?_⟩⟩
            · obtain ⟨q1, S, t, q2, q3, q4⟩ := HD.out.quiet HC.out
              exact ⟨hcx, S, t, q2.chg (S' := [wq.heap.size + 1]) ((Chg.refl _ _).setCell (.inl (by simp)) _) (by have := q2.ne_ty hB22 (by decide) (by decide) (by decide) (by decide); simp only [List.mem_cons, not_or] at this; simp; exact Ne.symm this.1) (fun x hx => by have := q2.ne_ty hB22 (by decide) (by decide) (by decide) (by decide); simp only [List.mem_cons, not_or] at this; simp; exact fun e => this.2 (e ▸ hx)), q3, q4⟩
            · refine (HR.out.chg HC.out (fun _ _ h => by cases h)).far (fun hm => ?_) _
              simp [foot_some] at hm
              have := HROW.out.lt gr (by simp [foot_some])
              omega
            · exact (hb1.chg HC.out (by simp)).far (by simp) _
            · exact hB22.set_ i _
            · rw [Array.size_setIfInBounds]; exact hsz
            · intro i' x hi' hx'
              rcases Nat.lt_or_ge i' i with h | h
              · rw [Array.getElem?_setIfInBounds_ne (by omega)]; exact hcs i' x h hx'
              · obtain rfl : i' = i := by omega
                rw [HYI.out] at hx'; cases hx'
                rw [Array.getElem?_setIfInBounds_self_of_lt (by rw [hsz]; exact hil), HLL.out, Int.toNat_natCast]
        · obtain rfl : rs.length = i := by omega
          obtain ⟨wy, hwy⟩ : ∃ wy : World, wy = wr := ⟨_, rfl⟩
          subst hwy
          obtain ⟨lf, hlf⟩ : ∃ lf, lf = leftR r (ch kk) := ⟨_, rfl⟩
          have HCAN := Lib.hid (fun W (hW : Chg [] wy W) => (hD.quiet hW).can HU.out HUL.out (by omega) (by omega))
          have HCHG := Lib.hid (fun W (hW : Chg [] wy W) => (hD.quiet hW).charge HU.out HUL.out (by omega) (by omega))
          have HHELD := Lib.hid hD.held
          rw [← hlf] at HCAN HCHG
          have HLFE := Lib.hid hlf
          have s0 := hb1.cell 0
          have s1 := hb1.cell 1
          have sl := hb1.lt
          have HR := Lib.hid hrow
          clear hlf hD hrow hb1 hb2 hsz hcs H1
          by_cases hp : 0 < lf
          · have dc : decide (0 < lf) = true := decide_eq_true hp
            rw [dc] at HCAN HCHG
            have HLL := Lib.hid (fun ki (h2 : Refs r (ch ki)) => (⟨by have := less_other HHELD.out (up_refs HU.out) HU.out.nodup (by rw [← HLFE.out]; exact hp) h2; unfold chargeR; rw [if_pos (by rw [← HLFE.out]; exact hp)]; exact this, fun e => by subst e; have := less_same HHELD.out (up_refs HU.out) HU.out.nodup (by rw [← HLFE.out]; exact hp); unfold chargeR; rw [if_pos (by rw [← HLFE.out]; exact hp)]; rw [← HLFE.out] at this ⊢; exact ⟨this, hp⟩⟩ : leftR (chargeR (ch kk) r) (ch ki) ≤ leftR r (ch ki) ∧ (ki = kk → leftR (chargeR (ch kk) r) (ch ki) = leftR r (ch ki) - 1 ∧ 0 < leftR r (ch ki))))
            go_wp2_with (first
              | (go_at_call 23; refine (HCAN.out _ (Chg.refl _ _)).mono ?_; rintro e v1 ⟨rfl, hc⟩; have HC1 := Lib.hid hc; have hb := H2.out.1.chg hc (by simp); have s0 := hb.cell 0; have s1 := hb.cell 1; have sl := hb.lt; clear hc hb)
              | (go_at_call 10; refine (HCHG.out _ HC1.out).mono ?_; rintro e v2 ⟨rfl, hd, hs⟩; have HD2 := Lib.hid hd; have HB1 := Lib.hid (hs.blk (H2.out.1.chg HC1.out (by simp))); have HB2 := Lib.hid (hs.blk (H2.out.2.1.chg HC1.out (by simp))); have HR2 := Lib.hid (hs.row (HR.out.chg HC1.out (fun _ _ h => by cases h))); clear hd hs))
            go_loopg [21] rs.length (fun gh iv wx => ∃ i : Nat, i + gh = rs.length ∧ iv = .int .i64 i ∧ Hid (CAt w wx c M (chargeR (ch kk) r) ch ∧ Chg [] v2 wx))
            case atStart => exact ⟨0, by omega, rfl, Lib.hid ⟨HD2.out, Chg.refl _ _⟩⟩
            case round =>
              obtain ⟨i, hi, rfl, H3⟩ := hrel
              obtain ⟨hD, hcx⟩ := H3.out
              by_cases hil : i < rs.length
              · have i0 : (0 : Int) ≤ (i : Int) := by omega
                have i1 : (i : Int) < (rs.length : Int) := by omega
                obtain ⟨y, hy⟩ : ∃ y, rs[i]? = some y := ⟨_, List.getElem?_eq_getElem hil⟩
                obtain ⟨ki, rfl, hkl, hkis⟩ := HREFS.out y (List.mem_of_getElem? hy)
                obtain ⟨gr', cr, hv, hfo, _, hcell, _, lgr3⟩ := HR2.out.form (by omega)
                simp only [Value.slice.injEq, Option.some.injEq, Addr.mk.injEq] at hv
                obtain ⟨⟨rfl, h95⟩, h93, h94⟩ := hv
                clear h93 h94 h95
                obtain ⟨x0, x1⟩ := refCells_at hy
                have HZ := Lib.hid (fun W (hW : Chg [] v2 W) => (⟨(hW.cell (p := ⟨gr, i * 2, none⟩) lgr3 (by simp)).trans (hcell _ _ x0), (hW.cell (p := ⟨gr, i * 2 + 1, none⟩) lgr3 (by simp)).trans (hcell _ _ x1)⟩ : _ ∧ _))
                obtain ⟨gi, hgi⟩ : ∃ gi, gi = (r.pl ki).gen := ⟨_, rfl⟩
                have HGI := Lib.hid hgi
                simp only at HZ
                rw [← hgi] at HZ
                obtain ⟨z0, z1⟩ := HZ.out _ hcx
                have hlk : Like r (chargeR (ch kk) r) := chargeR_like (M := M) (ch := ch) HU.out
                obtain ⟨hU2, hUL2, hk33⟩ := chain_at hD.held (k := ki) (g := gi) (by rw [hlk.is]; exact hkis) (by rw [hlk.gen]; exact hgi.symm)
                have HLF := Lib.hid (hD.left hU2 hUL2 (by omega) (by omega))
                have hU3 := (chain_at HHELD.out hkis hgi.symm).1
                have hwas := H2.out.2.2.2 i _ hil hy
                rw [Int.toNat_natCast] at hwas
                have HLS := Lib.hid (HLL.out ki (up_refs hU3))
                obtain ⟨na, hna⟩ : ∃ na, na = leftR (chargeR (ch kk) r) (ch ki) := ⟨_, rfl⟩
                obtain ⟨nb, hnb9⟩ : ∃ nb, nb = leftR r (ch ki) := ⟨_, rfl⟩
                have hnn := leftR_nn HHELD.out (ch ki)
                have hn4 := leftR_le HHELD.out (ch ki)
                rw [← hna] at HLF HLS
                rw [← hnb9] at hwas HLS hnn hn4
                have HW := Lib.hid (fun W (hW : Chg [] v2 W) => ((HB2.out.chg hW (by simp)).cell i).trans hwas)
                have HBX := Lib.hid (fun W (hW : Chg [] v2 W) => (⟨(HB1.out.chg hW (by simp)).cell 0, (HB1.out.chg hW (by simp)).cell 1, (HB1.out.chg hW (by simp)).lt, (HB2.out.chg hW (by simp)).lt⟩ : W.cell? ⟨wq.heap.size, 0, none⟩ = some (.int .i64 (kk : Nat)) ∧ W.cell? ⟨wq.heap.size, 1, none⟩ = some (.int .u64 G) ∧ wq.heap.size < W.heap.size ∧ wq.heap.size + 1 < W.heap.size))
                have HCX := Lib.hid hcx
                have HD3 := Lib.hid hD
                have hsm := HLS.out.1
                have hle : decide (nb < na) = false := decide_eq_false (by omega)
                have hle' : decide (na > nb) = false := decide_eq_false (by omega)
                have HGR := Lib.hid lgr3
                have hnnX := hnn
                clear hy hkis hfo hcell x0 x1 hgi hkl hU2 hUL2 hU3 hD hcx hna hnb9 hwas hlk H3
                by_cases hkk : ki = kk
                · obtain ⟨hs1, hs2⟩ := HLS.out.2 hkk
                  have e5 : (((ki : Nat) : Int) == ((kk : Nat) : Int)) = true := by rw [hkk]; exact beq_self_eq_true _
                  have e6 : (gi == G) = true := by rw [HGI.out, HGG.out, hkk]; simp
                  have hbnd : nb < 18446744073709551616 := by omega
                  have e7 : IntKind.u64.wrap (nb - 1) = na := by rw [hs1, IntKind.wrap_u64]; omega
                  have e8 : (na == na) = true := beq_self_eq_true na
                  have e8' : (na != na) = false := by simp
                  clear hkk hs1 hsm hnn
                  go_wp2_with (first
                    | (go_at_call 22; refine HLF.out.mono ?_; rintro e v3 ⟨rfl, hc⟩; have hv3 := HCX.out.then hc; have HC3 := Lib.hid hc; obtain ⟨z0, z1⟩ := HZ.out _ hv3; have zw := HW.out _ hv3; obtain ⟨b0, b1, b2, b3⟩ := HBX.out _ hv3; have lg := Nat.lt_of_lt_of_le HGR.out hv3.size; clear hc hv3))
                  go_quiet (fail)
                  go_wp2
                  go_roundg (rs.length - i - 1)
                  case measure => omega
                  case rel => exact ⟨i + 1, by omega, by go_num, Lib.hid ⟨(HD3.out.quiet HC3.out).quiet ((Chg.refl _ _).drewN _), (HCX.out.then HC3.out).drewN _⟩⟩
                · have e5 : (((ki : Nat) : Int) == ((kk : Nat) : Int)) = false := beq_eq_false_iff_ne.2 (by omega)
                  clear hkk hsm hnn
                  go_wp2_with (first
                    | (go_at_call 22; refine HLF.out.mono ?_; rintro e v3 ⟨rfl, hc⟩; have hv3 := HCX.out.then hc; have HC3 := Lib.hid hc; obtain ⟨z0, z1⟩ := HZ.out _ hv3; have zw := HW.out _ hv3; obtain ⟨b0, b1, b2, b3⟩ := HBX.out _ hv3; have lg := Nat.lt_of_lt_of_le HGR.out hv3.size; clear hc hv3))
                  go_quiet (fail)
                  go_wp2
                  go_roundg (rs.length - i - 1)
                  case measure => omega
                  case rel => exact ⟨i + 1, by omega, by go_num, Lib.hid ⟨(HD3.out.quiet HC3.out).quiet ((Chg.refl _ _).drewN _), (HCX.out.then HC3.out).drewN _⟩⟩
              · obtain rfl : rs.length = i := by omega
                have HC := Lib.hid hD.chg
                clear hD hcx H3
                go_wp2_with (go_at_call 9; refine (HK.out _).mono ?_; rintro e w2 ⟨rfl, hc⟩)
                go_ret
                exact ⟨rfl, HC.out.then hc⟩
          · have dc : decide (0 < lf) = false := decide_eq_false hp
            rw [dc] at HCAN HCHG
            have HLL := Lib.hid (fun ki (h2 : Refs r (ch ki)) => (⟨by unfold chargeR; rw [if_neg (by rw [← HLFE.out]; exact hp)]; exact Int.le_refl _, by unfold chargeR; rw [if_neg (by rw [← HLFE.out]; exact hp)]⟩ : leftR (chargeR (ch kk) r) (ch ki) ≤ leftR r (ch ki) ∧ leftR (chargeR (ch kk) r) (ch ki) = leftR r (ch ki)))
            go_wp2_with (first
              | (go_at_call 23; refine (HCAN.out _ (Chg.refl _ _)).mono ?_; rintro e v1 ⟨rfl, hc⟩; have HC1 := Lib.hid hc; have hb := H2.out.1.chg hc (by simp); have s0 := hb.cell 0; have s1 := hb.cell 1; have sl := hb.lt; clear hc hb)
              | (go_at_call 10; refine (HCHG.out _ HC1.out).mono ?_; rintro e v2 ⟨rfl, hd, hs⟩; have HD2 := Lib.hid hd; have HB1 := Lib.hid (hs.blk (H2.out.1.chg HC1.out (by simp))); have HB2 := Lib.hid (hs.blk (H2.out.2.1.chg HC1.out (by simp))); have HR2 := Lib.hid (hs.row (HR.out.chg HC1.out (fun _ _ h => by cases h))); clear hd hs))
            go_loopg [21] rs.length (fun gh iv wx => ∃ i : Nat, i + gh = rs.length ∧ iv = .int .i64 i ∧ Hid (CAt w wx c M (chargeR (ch kk) r) ch ∧ Chg [] v2 wx))
            case atStart => exact ⟨0, by omega, rfl, Lib.hid ⟨HD2.out, Chg.refl _ _⟩⟩
            case round =>
              obtain ⟨i, hi, rfl, H3⟩ := hrel
              obtain ⟨hD, hcx⟩ := H3.out
              by_cases hil : i < rs.length
              · have i0 : (0 : Int) ≤ (i : Int) := by omega
                have i1 : (i : Int) < (rs.length : Int) := by omega
                obtain ⟨y, hy⟩ : ∃ y, rs[i]? = some y := ⟨_, List.getElem?_eq_getElem hil⟩
                obtain ⟨ki, rfl, hkl, hkis⟩ := HREFS.out y (List.mem_of_getElem? hy)
                obtain ⟨gr', cr, hv, hfo, _, hcell, _, lgr3⟩ := HR2.out.form (by omega)
                simp only [Value.slice.injEq, Option.some.injEq, Addr.mk.injEq] at hv
                obtain ⟨⟨rfl, h95⟩, h93, h94⟩ := hv
                clear h93 h94 h95
                obtain ⟨x0, x1⟩ := refCells_at hy
                have HZ := Lib.hid (fun W (hW : Chg [] v2 W) => (⟨(hW.cell (p := ⟨gr, i * 2, none⟩) lgr3 (by simp)).trans (hcell _ _ x0), (hW.cell (p := ⟨gr, i * 2 + 1, none⟩) lgr3 (by simp)).trans (hcell _ _ x1)⟩ : _ ∧ _))
                obtain ⟨gi, hgi⟩ : ∃ gi, gi = (r.pl ki).gen := ⟨_, rfl⟩
                have HGI := Lib.hid hgi
                simp only at HZ
                rw [← hgi] at HZ
                obtain ⟨z0, z1⟩ := HZ.out _ hcx
                have hlk : Like r (chargeR (ch kk) r) := chargeR_like (M := M) (ch := ch) HU.out
                obtain ⟨hU2, hUL2, hk33⟩ := chain_at hD.held (k := ki) (g := gi) (by rw [hlk.is]; exact hkis) (by rw [hlk.gen]; exact hgi.symm)
                have HLF := Lib.hid (hD.left hU2 hUL2 (by omega) (by omega))
                have hU3 := (chain_at HHELD.out hkis hgi.symm).1
                have hwas := H2.out.2.2.2 i _ hil hy
                rw [Int.toNat_natCast] at hwas
                have HLS := Lib.hid (HLL.out ki (up_refs hU3))
                obtain ⟨na, hna⟩ : ∃ na, na = leftR (chargeR (ch kk) r) (ch ki) := ⟨_, rfl⟩
                obtain ⟨nb, hnb9⟩ : ∃ nb, nb = leftR r (ch ki) := ⟨_, rfl⟩
                have hnn := leftR_nn HHELD.out (ch ki)
                have hn4 := leftR_le HHELD.out (ch ki)
                rw [← hna] at HLF HLS
                rw [← hnb9] at hwas HLS hnn hn4
                have HW := Lib.hid (fun W (hW : Chg [] v2 W) => ((HB2.out.chg hW (by simp)).cell i).trans hwas)
                have HBX := Lib.hid (fun W (hW : Chg [] v2 W) => (⟨(HB1.out.chg hW (by simp)).cell 0, (HB1.out.chg hW (by simp)).cell 1, (HB1.out.chg hW (by simp)).lt, (HB2.out.chg hW (by simp)).lt⟩ : W.cell? ⟨wq.heap.size, 0, none⟩ = some (.int .i64 (kk : Nat)) ∧ W.cell? ⟨wq.heap.size, 1, none⟩ = some (.int .u64 G) ∧ wq.heap.size < W.heap.size ∧ wq.heap.size + 1 < W.heap.size))
                have HCX := Lib.hid hcx
                have HD3 := Lib.hid hD
                have hsm := HLS.out.1
                have hle : decide (nb < na) = false := decide_eq_false (by omega)
                have hle' : decide (na > nb) = false := decide_eq_false (by omega)
                have HGR := Lib.hid lgr3
                have hnnX := hnn
                clear hy hkis hfo hcell x0 x1 hgi hkl hU2 hUL2 hU3 hD hcx hna hnb9 hwas hlk H3
                have hs1 := HLS.out.2
                subst hs1
                have e8 : (na == na) = true := beq_self_eq_true na
                have e8' : (na != na) = false := by simp
                clear hsm hnn
                go_wp2_with (first
                  | (go_at_call 22; refine HLF.out.mono ?_; rintro e v3 ⟨rfl, hc⟩; have hv3 := HCX.out.then hc; have HC3 := Lib.hid hc; obtain ⟨z0, z1⟩ := HZ.out _ hv3; have zw := HW.out _ hv3; obtain ⟨b0, b1, b2, b3⟩ := HBX.out _ hv3; have lg := Nat.lt_of_lt_of_le HGR.out hv3.size; clear hc hv3))
                go_quiet (fail)
                go_wp2
                go_roundg (rs.length - i - 1)
                case measure => omega
                case rel => exact ⟨i + 1, by omega, by go_num, Lib.hid ⟨(HD3.out.quiet HC3.out).quiet ((Chg.refl _ _).drewN _), (HCX.out.then HC3.out).drewN _⟩⟩
              · obtain rfl : rs.length = i := by omega
                have HC := Lib.hid hD.chg
                clear hD hcx H3
                go_wp2_with (go_at_call 9; refine (HK.out _).mono ?_; rintro e w2 ⟨rfl, hc⟩)
                go_ret
                exact ⟨rfl, HC.out.then hc⟩
end Go.Proofs
end
section
namespace Go.Proofs
open Go.RowKit Go.Shelf
set_option linter.unusedVariables false
set_option linter.unusedSimpArgs false

/-! ### What is used never goes above the CPU -/
/-- Of each one that is there no more is used than its CPU. -/
def Within (r : RTab) : Prop := ∀ k, (r.pl k).is = true → (r.pl k).used ≤ (r.pl k).cpu
theorem clearR_pl {r : RTab} (L : List (Int × Int)) : Refs r L → ∀ j : Nat, (clearR L r).pl j = if (((j : Nat) : Int), (r.pl j).gen) ∈ L then { r.pl j with used := 0 } else r.pl j := by
  refine snoc_rec (P := fun L => Refs r L → ∀ j : Nat, (clearR L r).pl j = if (((j : Nat) : Int), (r.pl j).gen) ∈ L then { r.pl j with used := 0 } else r.pl j) (fun _ j => by simp [clearR]) (fun L x ih h j => ?_) L
  have hL : Refs r L := fun y hy => h y (List.mem_append_left _ hy)
  have ih := ih hL
  obtain ⟨k, rfl, hk, hi⟩ := h x (List.mem_append_right _ (List.mem_singleton.2 rfl))
  have hlen : (clearR L r).L.length = r.L.length := (clearR_like L (fun y hy => by obtain ⟨m, rfl, _, hm⟩ := hL y hy; exact hm)).len
  rw [clearR_snoc, Int.toNat_natCast]
  unfold RTab.clearK
  rw [set1_pl (by rw [hlen]; exact hk)]
  by_cases e : j = k
  · subst e
    rw [if_pos rfl, if_pos (List.mem_append_right _ (List.mem_singleton.2 rfl)), ih j]
    split <;> rfl
  · rw [if_neg e, ih j]
    by_cases hm : (((j : Nat) : Int), (r.pl j).gen) ∈ L
    · rw [if_pos hm, if_pos (List.mem_append_left _ hm)]
    · rw [if_neg hm, if_neg (fun hx => by
        rcases List.mem_append.1 hx with hx | hx
        · exact hm hx
        · rw [List.mem_singleton] at hx
          have := congrArg Prod.fst hx
          simp only at this
          omega)]
section
variable {M : Nat} {r : RTab} {ch : Nat → List (Int × Int)}
theorem begun_mem {now : Int} {k : Nat} (hk : (r.pl k).is = true) : (((k : Nat) : Int), (r.pl k).gen) ∈ begunL now (r.all ch) ↔ now % (r.pl k).per = 0 := by
  unfold begunL
  rw [List.mem_map]
  constructor
  · rintro ⟨p, hp, e⟩
    obtain ⟨h1, h2⟩ := List.mem_filter.1 hp
    obtain ⟨j, hj, hji, rfl⟩ := all_mem.1 h1
    simp only [Prod.mk.injEq] at e
    obtain ⟨e1, e2⟩ := e
    obtain rfl : j = k := by omega
    have h3 := of_decide_eq_true h2
    have e3 : (r.get ch (j : Nat) (r.pl j).gen).per = (r.pl j).per := rfl
    rw [← e3]; exact h3
  · intro h
    exact ⟨_, List.mem_filter.2 ⟨all_mem.2 ⟨k, is_lt hk, hk, rfl⟩, decide_eq_true h⟩, rfl⟩
theorem begun_refs (now : Int) : Refs r (begunL now (r.all ch)) := fun x hx => by
  unfold begunL at hx
  rw [List.mem_map] at hx
  obtain ⟨p, hp, rfl⟩ := hx
  obtain ⟨k, hk, hi, rfl⟩ := all_mem.1 (List.mem_filter.1 hp).1
  exact ⟨k, rfl, hk, hi⟩
theorem reset_used {now : Int} {k : Nat} (hk : (r.pl k).is = true) : ((resetR r ch now).pl k).used = if now % (r.pl k).per = 0 then 0 else (r.pl k).used := by
  unfold resetR
  rw [clearR_pl _ (begun_refs now) k]
  by_cases h : now % (r.pl k).per = 0
  · rw [if_pos ((begun_mem hk).2 h), if_pos h]
  · rw [if_neg (fun x => h ((begun_mem hk).1 x)), if_neg h]
theorem reset_within (hh : r.Held M ch) (hw : Within r) (now : Int) : Within (resetR r ch now) := fun k hk => by
  have hl := resetR_like (r := r) (ch := ch) now
  rw [hl.is] at hk
  rw [hl.cpu, reset_used hk]
  split
  · exact (hh.nums k (is_lt hk)).2.2.1.1
  · exact hw k hk
theorem use_used' (hh : r.Held M ch) {L : List (Int × Int)} (hL : Refs r L) (nd : L.Nodup) (hp : 0 < leftR r L) (k : Nat) :
    ((useR L r).pl k).used = if (((k : Nat) : Int), (r.pl k).gen) ∈ L then (r.pl k).used + 1 else (r.pl k).used := by
  rw [useR_pl L hL nd k]
  by_cases hm : (((k : Nat) : Int), (r.pl k).gen) ∈ L
  · rw [if_pos hm, if_pos hm]
    have := (leftR_pos hL hp).2 _ hm
    rw [Int.toNat_natCast] at this
    obtain ⟨j, e, hj, _⟩ := hL _ hm
    have e1 := congrArg Prod.fst e
    simp only at e1
    obtain rfl : k = j := by omega
    exact (left_use (hh.nums k hj).2.2.1.2 this).2.1
  · rw [if_neg hm, if_neg hm]
theorem charge_within (hh : r.Held M ch) {L : List (Int × Int)} (hL : Refs r L) (nd : L.Nodup) (hp : 0 < leftR r L) (hw : Within r) : Within (useR L r) := fun k hk => by
  have hl := useR_like (r := r) (M := M) (ch := ch) L (fun y hy => by obtain ⟨m, rfl, hm, _⟩ := hL y hy; exact hm)
  rw [hl.is] at hk
  rw [hl.cpu, use_used' hh hL nd hp k]
  split
  · next hm =>
    have := (leftR_pos hL hp).2 _ hm
    rw [Int.toNat_natCast] at this
    have := (left_use (hh.nums k (is_lt hk)).2.2.1.2 this).2.2
    omega
  · exact hw k hk
end
/-! ### The row of counts -/
/-- The code's domains, the refs, and the counts at B. -/
def HoldAt (w W : World) (c M : Nat) (ch : Nat → List (Int × Int)) (V : Value) (rs : List (Int × Int)) (B : Nat) (r : RTab) (cs : Array Value) : Prop :=
  CAt w W c M r ch ∧ Row W 34 2 V rs.length (refCells rs) ∧ Blk W B 22 cs ∧ cs.size = rs.length ∧ w.heap.size ≤ B
/-- Each count is what is used. -/
def Told (r : RTab) (rs : List (Int × Int)) (cs : Array Value) : Prop := ∀ (i : Nat) (x : Int × Int), rs[i]? = some x → cs[i]? = some (.int .u64 (r.pl x.1.toNat).used)
section
variable {w W W2 : World} {c M B : Nat} {ch : Nat → List (Int × Int)} {V : Value} {rs : List (Int × Int)} {r r' : RTab} {cs : Array Value}
theorem HoldAt.quiet (H : HoldAt w W c M ch V rs B r cs) (hc : Chg [] W W2) : HoldAt w W2 c M ch V rs B r cs := by
  obtain ⟨h1, h2, h3, h4, h5⟩ := H
  exact ⟨h1.quiet hc, h2.chg hc (fun _ _ h => by cases h), h3.chg hc (by simp), h4, h5⟩
theorem HoldAt.rest (H : HoldAt w W c M ch V rs B r cs) (h : CAt w W2 c M r' ch) (hr : Rest w W W2 c) : HoldAt w W2 c M ch V rs B r' cs := by
  obtain ⟨h1, h2, h3, h4, h5⟩ := H
  exact ⟨h, hr.row h2, hr.blk h3, h4, h5⟩
theorem HoldAt.store (H : HoldAt w W c M ch V rs B r cs) (i : Nat) (u : Value) : HoldAt w (W.setCell ⟨B, i, none⟩ u) c M ch V rs B r (cs.setIfInBounds i u) := by
  obtain ⟨⟨h1, S, t, a, b, d⟩, h2, h3, h4, h5⟩ := H
  have hc : Chg [B] W (W.setCell ⟨B, i, none⟩ u) := (Chg.refl _ _).setCell (.inl (by simp)) _
  have hne := a.ne_ty h3 (by decide) (by decide) (by decide) (by decide)
  simp only [List.mem_cons, not_or] at hne
  exact ⟨⟨h1.setCell (.inr h5) u, S, t, a.chg hc (by simp; exact Ne.symm hne.1) (fun k hk => by simp; exact fun e => hne.2 (e ▸ hk)), b, d⟩, h2.far (h2.ty h3 (by decide)) u, h3.set_ i u, by rw [Array.size_setIfInBounds]; exact h4, h5⟩
theorem HoldAt.cell (H : HoldAt w W c M ch V rs B r cs) {i : Nat} {u : Value} (h : cs[i]? = some u) : W.cell? ⟨B, i, none⟩ = some u ∧ (∀ j, W.frozen? ⟨B, j, none⟩ = false) ∧ B < W.heap.size :=
  ⟨(H.2.2.1.cell i).trans h, H.2.2.1.frozen, H.2.2.1.lt⟩
theorem HoldAt.chg (H : HoldAt w W c M ch V rs B r cs) : Chg [] w W := H.1.1
end
end Go.Proofs
end
section
namespace Go.Proofs
open Go.RowKit Go.Shelf
set_option linter.unusedVariables false
set_option linter.unusedSimpArgs false

theorem Told.made {r : RTab} {rs : List (Int × Int)} {cs : Array Value} (h : NoUse r) (hc : ∀ i, i < rs.length → cs[i]? = some (.int .u64 0)) : Told r rs cs := fun i x hx => by
  rw [h]; exact hc i (List.getElem?_eq_some_iff.1 hx).1
theorem within_none {M : Nat} {r : RTab} {ch : Nat → List (Int × Int)} (hh : r.Held M ch) (h : NoUse r) : Within r := fun k hk => by
  rw [h]; exact (hh.nums k (is_lt hk)).2.2.1.1
/-- The counts, of which the first so many are of the one table, the others of the other one. -/
def Half2 (r r2 : RTab) (rs : List (Int × Int)) (i : Nat) (cs : Array Value) : Prop := ∀ (i' : Nat) (x : Int × Int), rs[i']? = some x → cs[i']? = some (.int .u64 (if i' < i then (r2.pl x.1.toNat).used else (r.pl x.1.toNat).used))
theorem Half2.start {r r2 : RTab} {rs : List (Int × Int)} {cs : Array Value} (h : Told r rs cs) : Half2 r r2 rs 0 cs := fun i' x hx => by rw [if_neg (by omega)]; exact h i' x hx
theorem Half2.stop {r r2 : RTab} {rs : List (Int × Int)} {cs : Array Value} (h : Half2 r r2 rs rs.length cs) : Told r2 rs cs := fun i' x hx => by
  have := h i' x hx
  rw [if_pos (List.getElem?_eq_some_iff.1 hx).1] at this; exact this
theorem Half2.same {r r2 : RTab} {rs : List (Int × Int)} {cs : Array Value} {i : Nat} {y : Int × Int} (h : Half2 r r2 rs i cs) (hy : rs[i]? = some y) (he : (r2.pl y.1.toNat).used = (r.pl y.1.toNat).used) : Half2 r r2 rs (i + 1) cs := fun i' x hx => by
  have := h i' x hx
  by_cases e : i' = i
  · subst e
    rw [hy] at hx; cases hx
    rw [if_neg (by omega)] at this
    rw [if_pos (by omega), he]; exact this
  · rw [this]
    by_cases h1 : i' < i
    · rw [if_pos h1, if_pos (by omega)]
    · rw [if_neg h1, if_neg (by omega)]
theorem Half2.put {r r2 : RTab} {rs : List (Int × Int)} {cs : Array Value} {i : Nat} {y : Int × Int} (h : Half2 r r2 rs i cs) (hy : rs[i]? = some y) (hs : cs.size = rs.length) : Half2 r r2 rs (i + 1) (cs.setIfInBounds i (.int .u64 (r2.pl y.1.toNat).used)) := fun i' x hx => by
  have := h i' x hx
  by_cases e : i' = i
  · subst e
    rw [hy] at hx; cases hx
    rw [if_pos (by omega), Array.getElem?_setIfInBounds_self_of_lt (by rw [hs]; exact (List.getElem?_eq_some_iff.1 hy).1)]
  · rw [Array.getElem?_setIfInBounds_ne (by omega), this]
    by_cases h1 : i' < i
    · rw [if_pos h1, if_pos (by omega)]
    · rw [if_neg h1, if_neg (by omega)]
/-- The counts in the midst of a chain: of the i-th ref those of the chain that came so far have counted. -/
def Mid (r r2 : RTab) (rs : List (Int × Int)) (i : Nat) (Lt : List (Int × Int)) (cs : Array Value) : Prop := ∀ (i' : Nat) (x : Int × Int), rs[i']? = some x → cs[i']? = some (.int .u64 (if i' < i then (r2.pl x.1.toNat).used else if i' = i ∧ x ∈ Lt then (r.pl x.1.toNat).used + 1 else (r.pl x.1.toNat).used))
section
variable {r r2 : RTab} {rs Lt : List (Int × Int)} {cs : Array Value} {i : Nat} {y z : Int × Int}
theorem Mid.start (h : Half2 r r2 rs i cs) : Mid r r2 rs i [] cs := fun i' x hx => by
  rw [h i' x hx]
  by_cases h1 : i' < i
  · rw [if_pos h1, if_pos h1]
  · rw [if_neg h1, if_neg h1, if_neg (fun e => by cases e.2)]
theorem Mid.skip (h : Mid r r2 rs i Lt cs) (hy : rs[i]? = some y) (hn : y ≠ z) : Mid r r2 rs i (Lt ++ [z]) cs := fun i' x hx => by
  rw [h i' x hx]
  by_cases h1 : i' < i
  · rw [if_pos h1, if_pos h1]
  · rw [if_neg h1, if_neg h1]
    by_cases h2 : i' = i
    · subst h2
      rw [hy] at hx; cases hx
      have : (y ∈ Lt ++ [z]) ↔ y ∈ Lt := by
        rw [List.mem_append, List.mem_singleton]; exact ⟨fun h => h.elim id (fun e => absurd e hn), .inl⟩
      simp only [this]
    · rw [if_neg (fun e => h2 e.1), if_neg (fun e => h2 e.1)]
theorem Mid.old (h : Mid r r2 rs i Lt cs) (hy : rs[i]? = some y) (hn : y ∉ Lt) : cs[i]? = some (.int .u64 (r.pl y.1.toNat).used) := by
  rw [h i y hy, if_neg (by omega), if_neg (fun e => hn e.2)]
theorem Mid.hit (h : Mid r r2 rs i Lt cs) (hy : rs[i]? = some y) (hs : cs.size = rs.length) : Mid r r2 rs i (Lt ++ [y]) (cs.setIfInBounds i (.int .u64 ((r.pl y.1.toNat).used + 1))) := fun i' x hx => by
  by_cases h2 : i' = i
  · subst h2
    rw [hy] at hx; cases hx
    rw [if_neg (by omega), if_pos ⟨rfl, List.mem_append_right _ (List.mem_singleton.2 rfl)⟩, Array.getElem?_setIfInBounds_self_of_lt (by rw [hs]; exact (List.getElem?_eq_some_iff.1 hy).1)]
  · rw [Array.getElem?_setIfInBounds_ne (by omega), h i' x hx]
    by_cases h1 : i' < i
    · rw [if_pos h1, if_pos h1]
    · rw [if_neg h1, if_neg h1, if_neg (fun e => h2 e.1), if_neg (fun e => h2 e.1)]
theorem Mid.stop {L : List (Int × Int)} (h : Mid r r2 rs i L cs) (hr : Refs r rs) (hu : ∀ k : Nat, (r2.pl k).used = if (((k : Nat) : Int), (r.pl k).gen) ∈ L then (r.pl k).used + 1 else (r.pl k).used) : Half2 r r2 rs (i + 1) cs := fun i' x hx => by
  rw [h i' x hx]
  by_cases h1 : i' < i
  · rw [if_pos h1, if_pos (by omega)]
  · rw [if_neg h1]
    by_cases h2 : i' = i
    · obtain ⟨k, e, _, _⟩ := hr x (List.mem_of_getElem? hx)
      rw [if_pos (show i' < i + 1 by omega)]
      have := hu k
      subst e
      rw [Int.toNat_natCast, this]
      simp only [h2, true_and]
    · rw [if_neg (fun e => h2 e.1), if_neg (by omega)]
end
set_option maxHeartbeats 25600000 in
set_option maxRecDepth 100000 in
theorem holds_any (cpu per : Int) (hcp : 0 ≤ cpu) (hpp : 0 ≤ per) (V1 V3 : Value) (l : List CarvC) (tl : List (Value × List Int)) (w : World) (hV1 : Carvs w V1 l) (hV3 : TimesQ w V3 tl) :
    Calls Try.prog 4 #[.int .u64 cpu, .int .u64 per, V1, V3] w fun e w' => e = .returned (.bool true) ∧ Chg [] w w' := by
  have HM := Lib.hid (made_any cpu per hcp hpp V1 l w w hV1 (Chg.refl _ _))
  have HK := Lib.hid known_any
  obtain ⟨A3, c3, rfl⟩ := hV3.open_
  obtain ⟨m, hm⟩ : ∃ m, m = tl.length := ⟨_, rfl⟩
  rw [← hm] at hV3 ⊢
  have HV := Lib.hid hV3
  clear hV1 hV3 hm
  go_enter Try.func4, Try.ntmps4
  go_wp2_with (fail)
  refine HM.out.mono ?_
  rintro e w1 (⟨rfl, hc⟩ | ⟨c, h, N, V, rs, rfl, hN, hM⟩)
  · have HC := Lib.hid hc
    clear hc
    go_wp2_with (go_at_call 9; refine (HK.out _).mono ?_; rintro e w2 ⟨rfl, hc⟩)
    go_ret
    exact ⟨rfl, HC.out.then hc⟩
  by_cases hbig : 60 < (m : Int)
  · have d1 : decide ((m : Int) > 60) = true := by simpa using hbig
    have d2 : decide (60 < (m : Int)) = true := by simpa using hbig
    have HC := Lib.hid hM.chg
    clear hM
    go_wp2_with (go_at_call 9; refine (HK.out _).mono ?_; rintro e w2 ⟨rfl, hc⟩)
    go_ret
    exact ⟨rfl, HC.out.then hc⟩
  have d1 : decide ((m : Int) > 60) = false := by simpa using hbig
  have d2 : decide (60 < (m : Int)) = false := by simpa using hbig
  obtain ⟨r0, ch, hC, hrow, hrefs, hpers, hnu, _, hN9⟩ := hM.code
  obtain ⟨A, cc, rfl, _⟩ := hrow.val
  have hlen : 1 ≤ rs.length ∧ rs.length ≤ N + 1 := by obtain ⟨_, _, _, _, _, _, _, _, _, _, hl, _⟩ := hM; exact hl
  have hn1 : 1 ≤ rs.length := hlen.1
  have hnb : rs.length ≤ 1000 := by have := hlen.2; omega
  obtain ⟨cs0, hcs0, hz0, hmk⟩ := make_nums rs.length hnb w1
  have HST := Lib.hid (show HoldAt w (w1.alloc (.cells cs0 22)) c (N + 1) ch (.slice A rs.length cc) rs w1.heap.size r0 cs0 from ⟨hC.quiet ((Chg.refl _ _).alloc _), hrow.alloc _, Blk.new w1 22 cs0, hcs0, hC.1.size⟩)
  have HSF := Lib.hid (show Refs r0 rs ∧ Pers r0 ∧ Within r0 ∧ Told r0 rs cs0 from ⟨hrefs, hpers, within_none hC.held hnu, Told.made hnu hz0⟩)
  obtain ⟨M, hMM⟩ : ∃ M, M = N + 1 := ⟨_, rfl⟩
  rw [← hMM] at HST
  clear hM hC hrow hrefs hlen hMM hN hcs0 hz0 hpers hnu hN9
  go_wp2
  obtain ⟨B, hB⟩ : ∃ B, B = w1.heap.size := ⟨_, rfl⟩
  rw [← hB] at HST ⊢
  clear hB
  go_loopg [14] m (fun gh iv wr => ∃ (jj : Nat) (r : RTab) (cs : Array Value), jj + gh = m + 1 ∧ 1 ≤ jj ∧ iv = .int .i64 jj ∧ Hid (HoldAt w wr c M ch (.slice A rs.length cc) rs B r cs) ∧ Hid (Refs r rs ∧ Pers r ∧ Within r ∧ Told r rs cs))
  case atStart => exact ⟨1, r0, cs0, by omega, by omega, rfl, HST, HSF⟩
  case round =>
    obtain ⟨jj, r, cs, hj, hj1, rfl, HH, HF⟩ := hrel
    by_cases hlt : jj ≤ m
    · obtain ⟨wq, hwq⟩ : ∃ wq : World, wq = wr := ⟨_, rfl⟩
      subst hwq
      have j0 : (0 : Int) ≤ (jj : Int) := by omega
      have j1 : (jj : Int) ≤ (m : Int) := by omega
      have j2 : (jj : Int) < 18446744073709551616 := by omega
      obtain ⟨hrefs, hpers, hwith, htold⟩ := HF.out
      have HRS := Lib.hid (HH.out.1.reset hpers j0 j2)
      have ew : IntKind.u64.wrap (jj : Int) = jj := by rw [IntKind.wrap_u64]; omega
      have HL2 := Lib.hid (resetR_like (r := r) (ch := ch) (jj : Int))
      have HHELD := Lib.hid HH.out.1.held
      have HU2 := Lib.hid (fun k hk => reset_used (r := r) (ch := ch) (now := (jj : Int)) (k := k) hk)
      have HREFS := Lib.hid hrefs
      have HPERS := Lib.hid hpers
      have HT1 := Lib.hid htold
      have HF2 := Lib.hid (show Refs (resetR r ch jj) rs ∧ Pers (resetR r ch jj) ∧ Within (resetR r ch jj) from ⟨hrefs.like' HL2.out, HL2.out.pers hpers, reset_within HH.out.1.held hwith _⟩)
      obtain ⟨r2, hr2⟩ : ∃ r2, r2 = resetR r ch (jj : Int) := ⟨_, rfl⟩
      rw [← hr2] at HRS HL2 HU2 HF2
      clear hrefs hpers hwith htold hr2
      go_wp2_with (go_at_call 15; refine HRS.out.mono ?_; rintro e wa ⟨A9, c9, rfl, _, _, hd, _, hrest⟩; have HA := Lib.hid (HH.out.rest hd hrest); clear hd hrest)
      (try rw [ew])
      go_loopg [15] rs.length (fun gh iv wx => ∃ (i : Nat) (cs2 : Array Value), i + gh = rs.length ∧ iv = .int .i64 i ∧ Hid (HoldAt w wx c M ch (.slice A rs.length cc) rs B r2 cs2) ∧ Hid (Half2 r r2 rs i cs2))
      case atStart => exact ⟨0, cs, by omega, rfl, HA, Lib.hid (Half2.start HT1.out)⟩
      case round =>
        obtain ⟨i, cs2, hi, rfl, H2, HH2⟩ := hrel
        by_cases hil : i < rs.length
        · have i0 : (0 : Int) ≤ (i : Int) := by omega
          have i1 : (i : Int) < (rs.length : Int) := by omega
          obtain ⟨y, hy⟩ : ∃ y, rs[i]? = some y := ⟨_, List.getElem?_eq_getElem hil⟩
          obtain ⟨ki, rfl, hkl, hkis⟩ := HF2.out.1 y (List.mem_of_getElem? hy)
          obtain ⟨gr, cr, hv, hfo, _, hcell, _, lgr3⟩ := H2.out.2.1.form (by omega)
          simp only [Value.slice.injEq] at hv
          obtain ⟨h94, h95, h93⟩ := hv
          obtain ⟨x0, x1⟩ := refCells_at hy
          have z0 := hcell _ _ x0
          have z1 := hcell _ _ x1
          obtain ⟨gi, hgi⟩ : ∃ gi, gi = (r2.pl ki).gen := ⟨_, rfl⟩
          simp only at z0 z1
          rw [← hgi] at z1
          clear hfo hcell x0 x1 h93 h95
          subst h94
          obtain ⟨hp1, hp2⟩ := HF2.out.2.1 ki hkis
          have huse := HU2.out ki (by rw [← HL2.out.is]; exact hkis)
          rw [← HL2.out.per] at huse
          have HG := Lib.hid (H2.out.1.get hkis hgi.symm)
          have hXp : (r2.get ch (ki : Nat) gi).per = (r2.pl ki).per := rfl
          obtain ⟨X, hX⟩ : ∃ X, X = r2.get ch (ki : Nat) gi := ⟨_, rfl⟩
          rw [← hX] at HG hXp
          obtain ⟨X0, X1, X2, X3, X4, X5, X6, X7, X8, X9, X10⟩ := X
          simp only at hXp
          rw [← hXp] at hp1 hp2 huse
          obtain ⟨mb0, mb1, mb2⟩ := mod_bd j0 hp1
          obtain ⟨vo, hvo⟩ : ∃ vo, cs2[i]? = some vo := ⟨_, Array.getElem?_eq_getElem (by rw [H2.out.2.2.2.1]; exact hil)⟩
          obtain ⟨mm, hmm⟩ : ∃ mm, mm = (jj : Int) % X4 := ⟨_, rfl⟩
          have em1 : (jj : Int) % X4 = mm := hmm.symm
          have em2 : (jj : Int).tmod X4 = mm := by rw [Int.tmod_eq_emod_of_nonneg j0]; exact em1
          rw [← hmm] at mb0 mb1 mb2 huse
          have em3 : IntKind.u64.wrap mm = mm := by rw [IntKind.wrap_u64]; omega
          have ep0 : (X4 == 0) = false := by have : ¬ X4 = 0 := by omega
                                             simpa using this
          have ep1 : ¬ X4 = 0 := by omega
          have HVO := Lib.hid hvo
          have HYI := Lib.hid hy
          have HKI := Lib.hid hkis
          clear hy hkis hgi hkl hX hXp hvo hmm
          by_cases hz : mm = 0
          · rw [if_pos hz] at huse
            have HUSE := Lib.hid huse
            have e6 : (mm == 0) = true := by simpa using hz
            clear hz huse em1
            have em1 : (jj : Int) % X4 = mm := by rw [← Int.tmod_eq_emod_of_nonneg j0]; exact em2
            go_wp2_with (go_at_call 27; refine HG.out.mono ?_; rintro e v1 ⟨rfl, hc⟩; have HB := Lib.hid (H2.out.quiet hc); have hcl := (H2.out.quiet hc).cell HVO.out; have z2 := hcl.1; have z3 := hcl.2.1; have z4 := hcl.2.2; clear hc hcl)
            go_roundg (rs.length - i - 1)
            case measure => omega
            case rel =>
              refine ⟨i + 1, cs2.setIfInBounds i (.int .u64 0), by omega, by go_num, Lib.hid ((HB.out.store i (.int .u64 0)).quiet ((Chg.refl [] _).alloc _)), Lib.hid ?_⟩
              have := HH2.out.put HYI.out H2.out.2.2.2.1
              rw [Int.toNat_natCast, HUSE.out] at this
              exact this
          · rw [if_neg hz] at huse
            have HUSE := Lib.hid huse
            have e6 : (mm == 0) = false := by simpa using hz
            clear hz huse
            go_wp2_with (go_at_call 27; refine HG.out.mono ?_; rintro e v1 ⟨rfl, hc⟩; have HB := Lib.hid ((H2.out.quiet hc).quiet ((Chg.refl [] v1).alloc (.cells #[.int .i64 X0, .int .u64 X1, .int .i64 X2, .int .u64 X3, .int .u64 X4, .int .i64 X5, .int .u64 X6, .int .i64 X7, .int .i64 X8, .int .u64 X9, .int .i64 X10] 59))); clear hc)
            go_roundg (rs.length - i - 1)
            case measure => omega
            case rel => exact ⟨i + 1, cs2, by omega, by go_num, HB, Lib.hid (HH2.out.same HYI.out (by rw [Int.toNat_natCast]; exact HUSE.out))⟩
        · obtain rfl : rs.length = i := by omega
          have HT2 := Lib.hid HH2.out.stop
          obtain ⟨wy, hwy⟩ : ∃ wy : World, wy = wr := ⟨_, rfl⟩
          subst hwy
          clear HH2
          clear ew j2
          have hjx1 : jj - 1 < m := by omega
          obtain ⟨b3, off3, vl, hA3, _, hfit3, hb3, hcells3⟩ := HV.out.is_ hjx1
          subst hA3
          obtain ⟨Vj, lj⟩ := vl
          simp only at hfit3 hcells3
          obtain ⟨A5, c5, rfl⟩ := hfit3.open_
          have HI5 := Lib.hid hfit3
          have HC3 := Lib.hid (fun W (hW : Chg [] w W) => (show W.cell? ⟨b3, off3 + (jj - 1), none⟩ = some (.slice A5 lj.length c5) by simpa using hcells3 W hW 0 _ rfl))
          have HF30 := Lib.hid (show Refs r2 rs ∧ Pers r2 ∧ Within r2 ∧ Told r2 rs cs2 from ⟨HF2.out.1, HF2.out.2.1, HF2.out.2.2, HT2.out⟩)
          have hb3w : b3 < w.heap.size := hb3
          clear hfit3 hcells3 hi HRS HL2 HU2 HF2 HT1 HT2 HA HH HF HREFS HPERS HHELD
          go_wp2
          go_loopg [18] 10 (fun gh iv wx => ∃ (q : Nat) (r3 : RTab) (cs3 : Array Value), q + gh = 10 ∧ iv = .int .i64 q ∧ Hid (HoldAt w wx c M ch (.slice A rs.length cc) rs B r3 cs3) ∧ Hid (Refs r3 rs ∧ Pers r3 ∧ Within r3 ∧ Told r3 rs cs3))
          case atStart => exact ⟨0, r2, cs2, by omega, rfl, H2, HF30⟩
          case round =>
            obtain ⟨q, r3, cs3, hq, rfl, H3, HF3⟩ := hrel
            obtain ⟨wz, hwz⟩ : ∃ wz : World, wz = wr := ⟨_, rfl⟩
            subst hwz
            have t3 := HC3.out _ H3.out.chg
            have t4 : b3 < wz.heap.size := Nat.lt_of_lt_of_le hb3w H3.out.chg.size
            have q00 : (0 : Int) ≤ (q : Int) := by omega
            by_cases hq1 : q < lj.length
            · have e1 : decide ((q : Int) < (lj.length : Int)) = true := decide_eq_true (by omega)
              have q1 : (q : Int) < (lj.length : Int) := by omega
              by_cases hq2 : q < 10
              · have e2 : decide ((q : Int) < 10) = true := decide_eq_true (by omega)
                have q2 : (q : Int) < 10 := by omega
                obtain ⟨b5, off5, x, hA5, _, hxf, hb5, hcells5⟩ := HI5.out.is_ hq1
                subst hA5
                have hcell5 : ∀ W, Chg [] w W → W.cell? ⟨b5, off5 + q, none⟩ = some (.int .i64 x) := fun W hW => by simpa using hcells5 W hW 0 _ rfl
                have hcw := H3.out.chg
                have s5 := hcell5 _ hcw
                have hb5w : b5 < wz.heap.size := Nat.lt_of_lt_of_le hb5 hcw.size
                obtain ⟨k, hkn, ek, ek'⟩ := idx_of x hn1 hnb
                have k0 : (0 : Int) ≤ (k : Int) := by omega
                have k1 : (k : Int) < (rs.length : Int) := by omega
                have q0 : (0 : Int) ≤ (q : Int) := by omega
                have hil : k < rs.length := hkn
                obtain ⟨y, hy⟩ : ∃ y, rs[k]? = some y := ⟨_, List.getElem?_eq_getElem hil⟩
                obtain ⟨kk, rfl, hkl, hkis⟩ := HF3.out.1 y (List.mem_of_getElem? hy)
                obtain ⟨gr, cr, hv, hfo, _, hcell, _, lgr3⟩ := H3.out.2.1.form (by omega)
                simp only [Value.slice.injEq] at hv
                obtain ⟨h94, h95, h93⟩ := hv
                obtain ⟨x0, x1⟩ := refCells_at hy
                have z0 := hcell _ _ x0
                have z1 := hcell _ _ x1
                obtain ⟨G, hgi⟩ : ∃ G, G = (r3.pl kk).gen := ⟨_, rfl⟩
                simp only at z0 z1
                rw [← hgi] at z1
                clear hfo hcell h93 h95
                rw [← hgi] at x1
                simp only at x0 x1
                have HZX := Lib.hid (show _ ∧ _ from ⟨x0, x1⟩)
                clear x0 x1
                subst h94
                obtain ⟨hU, hUL, hk32⟩ := chain_at H3.out.1.held hkis hgi.symm
                have HCG := Lib.hid (H3.out.1.charge hU hUL (by omega) (by omega))
                have HU := Lib.hid hU
                have HUL := Lib.hid hUL
                have HKI := Lib.hid hkis
                have HGI := Lib.hid hgi
                have HH3 := Lib.hid H3.out.1.held
                obtain ⟨lf, hlf⟩ : ∃ lf, lf = leftR r3 (ch kk) := ⟨_, rfl⟩
                rw [← hlf] at HCG
                have HLFE := Lib.hid hlf
                clear hy hkis hkl hgi hU hUL hlf hcells5 hcw
                by_cases hp : 0 < lf
                · have dp : decide (0 < lf) = true := decide_eq_true hp
                  rw [dp] at HCG
                  have hp' : 0 < leftR r3 (ch kk) := by rw [← HLFE.out]; exact hp
                  have hch : chargeR (ch kk) r3 = useR (ch kk) r3 := by unfold chargeR; rw [if_pos hp']
                  have HLK := Lib.hid (show Like r3 (useR (ch kk) r3) from useR_like (M := M) (ch := ch) (ch kk) (fun y hy => is_lt (up_is HU.out y hy)))
                  have HUU := Lib.hid (use_used' HH3.out (up_refs HU.out) HU.out.nodup hp')
                  have HW4 := Lib.hid (charge_within HH3.out (up_refs HU.out) HU.out.nodup hp' HF3.out.2.2.1)
                  have HF4 := Lib.hid (show Refs (useR (ch kk) r3) rs ∧ Pers (useR (ch kk) r3) from ⟨HF3.out.1.like' HLK.out, HLK.out.pers HF3.out.2.1⟩)
                  rw [hch] at HCG
                  obtain ⟨r4, hr4⟩ : ∃ r4, r4 = useR (ch kk) r3 := ⟨_, rfl⟩
                  rw [← hr4] at HCG HLK HUU HW4 HF4
                  obtain ⟨L, hL⟩ : ∃ L, L = ch kk := ⟨_, rfl⟩
                  have HND := Lib.hid (show L.Nodup by rw [hL]; exact HU.out.nodup)
                  have HTH := Lib.hid (show Refs r3 L by rw [hL]; exact up_refs HU.out)
                  have HCN := Lib.hid (fun W (hW : CAt w W c M r4 ch) => by
                    have hh := chain_at hW.held (k := kk) (g := G) (by rw [HLK.out.is]; exact HKI.out) (by rw [HLK.out.gen]; exact HGI.out.symm)
                    have := hW.chain hh.1 hh.2.1 (by omega) (by omega)
                    rw [← hL] at this; exact this)
                  have hLl : L.length ≤ 1000 := by rw [hL]; exact HUL.out
                  rw [← hL] at HUU
                  clear hp hp' hch dp hr4 hL
                  go_wp2_with (first
                    | (go_at_call 10; refine HCG.out.mono ?_; rintro e wb ⟨rfl, hd, hrest⟩; have HB4 := Lib.hid (H3.out.rest hd hrest); obtain ⟨gr2, cr2, hv2, _, _, hcell2, _, lgr2⟩ := HB4.out.2.1.form (by omega); simp only [Value.slice.injEq, Option.some.injEq, Addr.mk.injEq] at hv2; obtain ⟨⟨hv3, hv4⟩, hv5, hv6⟩ := hv2; clear hv4 hv5 hv6; subst hv3; have HCE := Lib.hid hcell2; have z0 := HCE.out _ _ HZX.out.1; have z1 := HCE.out _ _ HZX.out.2; clear hd hrest hcell2)
                    | (go_at_call 28; refine (HCN.out _ HB4.out.1).mono ?_; rintro e wc ⟨AL, cL, rfl, hr, _, hc⟩; have HC4 := Lib.hid (show HoldAt w wc c M ch (.slice (some ⟨gr, 0, none⟩) rs.length cc) rs B r4 cs3 ∧ Row wc 34 2 (.slice AL L.length cL) L.length (refCells L) from ⟨HB4.out.quiet hc, hr⟩); clear hr hc))
                  clear ek ek' s5 hcell5
                  go_loopg [21] rs.length (fun gh iv wx => ∃ (i : Nat) (cs4 : Array Value), i + gh = rs.length ∧ iv = .int .i64 i ∧ Hid (HoldAt w wx c M ch (.slice (some ⟨gr, 0, none⟩) rs.length cc) rs B r4 cs4 ∧ Row wx 34 2 (.slice AL L.length cL) L.length (refCells L)) ∧ Hid (Half2 r3 r4 rs i cs4))
                  case atStart => exact ⟨0, cs3, by omega, rfl, HC4, Lib.hid (Half2.start HF3.out.2.2.2)⟩
                  case round =>
                    obtain ⟨i, cs4, hi, rfl, H4, HM4⟩ := hrel
                    by_cases hil4 : i < rs.length
                    · obtain ⟨wu, hwu⟩ : ∃ wu : World, wu = wr := ⟨_, rfl⟩
                      subst hwu
                      have i0 : (0 : Int) ≤ (i : Int) := by omega
                      have i1 : (i : Int) < (rs.length : Int) := by omega
                      obtain ⟨y, hy⟩ : ∃ y, rs[i]? = some y := ⟨_, List.getElem?_eq_getElem hil4⟩
                      obtain ⟨ki, rfl, hkl, hkis⟩ := HF3.out.1 y (List.mem_of_getElem? hy)
                      obtain ⟨gi, hgi⟩ : ∃ gi, gi = (r3.pl ki).gen := ⟨_, rfl⟩
                      rw [← hgi] at hy
                      have HYI := Lib.hid hy
                      have HGI2 := Lib.hid hgi
                      have hbu : (r3.pl ki).used ≤ 4294967296 := by have := HF3.out.2.2.1 ki hkis; have := (HH3.out.nums ki hkl).2.2.1.2; omega
                      have hbn : 0 ≤ (r3.pl ki).used := (HH3.out.nums ki hkl).2.2.2.1.1
                      obtain ⟨us, hus⟩ : ∃ us, us = (r3.pl ki).used := ⟨_, rfl⟩
                      rw [← hus] at hbu hbn
                      have HUS := Lib.hid hus
                      have ea : IntKind.u64.wrap (us + 1) = us + 1 := by rw [IntKind.wrap_u64]; omega
                      clear hy hgi hkis hkl hus
                      go_wp2
                      go_loopg [22] L.length (fun gh iv wx => ∃ (nn : Nat) (cs5 : Array Value), nn + gh = L.length ∧ iv = .int .i64 nn ∧ Hid (HoldAt w wx c M ch (.slice (some ⟨gr, 0, none⟩) rs.length cc) rs B r4 cs5 ∧ Row wx 34 2 (.slice AL L.length cL) L.length (refCells L)) ∧ Hid (Mid r3 r4 rs i (L.take nn) cs5))
                      case atStart => exact ⟨0, cs4, by omega, rfl, H4, Lib.hid (Mid.start HM4.out)⟩
                      case round =>
                        obtain ⟨nn, cs5, hnn5, rfl, H5, HM5⟩ := hrel
                        by_cases hnl : nn < L.length
                        · have n0 : (0 : Int) ≤ (nn : Int) := by omega
                          have n1 : (nn : Int) < (L.length : Int) := by omega
                          obtain ⟨x9, hx9⟩ : ∃ x9, L[nn]? = some x9 := ⟨_, List.getElem?_eq_getElem hnl⟩
                          obtain ⟨kn, rfl, hkl9, hkis9⟩ := HTH.out x9 (List.mem_of_getElem? hx9)
                          obtain ⟨gn, hgn⟩ : ∃ gn, gn = (r3.pl kn).gen := ⟨_, rfl⟩
                          rw [← hgn] at hx9
                          obtain ⟨gL, cr9, hv9, _, _, hcell9, _, lgr9⟩ := H5.out.2.form (by omega)
                          simp only [Value.slice.injEq] at hv9
                          obtain ⟨hv91, hv92, hv93⟩ := hv9
                          obtain ⟨p0, p1⟩ := refCells_at hx9
                          have c0 := hcell9 _ _ p0
                          have c1 := hcell9 _ _ p1
                          obtain ⟨gr8, cr8, hv8, _, _, hcell8, _, lgr8⟩ := H5.out.1.2.1.form (by omega)
                          simp only [Value.slice.injEq, Option.some.injEq, Addr.mk.injEq] at hv8
                          obtain ⟨⟨hv81, hv84⟩, hv82, hv83⟩ := hv8
                          subst hv81
                          obtain ⟨p2, p3⟩ := refCells_at HYI.out
                          have c2 := hcell8 _ _ p2
                          have c3' := hcell8 _ _ p3
                          simp only at c0 c1 c2 c3'
                          have HTK := Lib.hid (take_more hx9)
                          have HGN := Lib.hid hgn
                          have HXX := Lib.hid hx9
                          clear hv92 hv93 hv84 hv82 hv83 hcell9 hcell8 p0 p1 p2 p3 hgn hkis9 hkl9 hx9
                          subst hv91
                          by_cases hkk : kn = ki
                          · have e5 : (((kn : Nat) : Int) == ((ki : Nat) : Int)) = true := by rw [hkk]; exact beq_self_eq_true _
                            have e6 : (gn == gi) = true := by rw [HGN.out, HGI2.out, hkk]; simp
                            have hsame : (((kn : Nat) : Int), gn) = (((ki : Nat) : Int), gi) := by rw [HGN.out, HGI2.out, hkk]
                            have hnin : (((ki : Nat) : Int), gi) ∉ L.take nn := fun hm => by
                              rw [← hsame] at hm
                              have hnd := HND.out
                              rw [← List.take_append_drop nn L] at hnd
                              obtain ⟨_, _, hdis⟩ := List.nodup_append.1 hnd
                              obtain ⟨hlt9, e9⟩ := List.getElem?_eq_some_iff.1 HXX.out
                              exact hdis _ hm _ (by rw [List.drop_eq_getElem_cons hlt9, e9]; exact List.mem_cons_self) rfl
                            have hold := HM5.out.old HYI.out hnin
                            rw [Int.toNat_natCast, ← HUS.out] at hold
                            obtain ⟨z2, z3, z4⟩ := H5.out.1.cell hold
                            have HNX := Lib.hid (show Mid r3 r4 rs i (L.take (nn + 1)) (cs5.setIfInBounds i (.int .u64 (us + 1))) by
                              have := HM5.out.hit HYI.out H5.out.1.2.2.2.1
                              rw [Int.toNat_natCast, ← HUS.out] at this
                              rw [HTK.out, hsame]; exact this)
                            clear hkk hsame hnin hold
                            go_wp2
                            go_quiet (fail)
                            go_wp2
                            go_roundg (L.length - nn - 1)
                            case measure => omega
                            case rel =>
                              refine ⟨nn + 1, _, by omega, by go_num, Lib.hid ⟨(H5.out.1.quiet ((Chg.refl [] wr).drewN _)).store i (.int .u64 (us + 1)), ?_⟩, HNX⟩
                              exact (H5.out.2.drewN _).far (H5.out.2.ty H5.out.1.2.2.1 (by decide)) _
                          · have e5 : (((kn : Nat) : Int) == ((ki : Nat) : Int)) = false := beq_eq_false_iff_ne.2 (by omega)
                            have HNX := Lib.hid (show Mid r3 r4 rs i (L.take (nn + 1)) cs5 by
                              rw [HTK.out]
                              exact HM5.out.skip HYI.out (fun e => by have := congrArg Prod.fst e; simp only at this; omega))
                            clear hkk
                            go_wp2
                            go_quiet (fail)
                            go_wp2
                            go_roundg (L.length - nn - 1)
                            case measure => omega
                            case rel => exact ⟨nn + 1, cs5, by omega, by go_num, Lib.hid ⟨H5.out.1.quiet ((Chg.refl [] wr).drewN _), H5.out.2.drewN _⟩, HNX⟩
                        · obtain rfl : L.length = nn := by omega
                          have HST5 := Lib.hid (show Half2 r3 r4 rs (i + 1) cs5 by have := HM5.out; rw [List.take_length] at this; exact this.stop HF3.out.1 HUU.out)
                          clear hnn5 HM5
                          go_wp2
                          go_roundg (rs.length - i - 1)
                          case measure => omega
                          case rel => exact ⟨i + 1, cs5, by omega, by go_num, H5, HST5⟩
                    · obtain rfl : rs.length = i := by omega
                      have HFX := Lib.hid (show Refs r4 rs ∧ Pers r4 ∧ Within r4 ∧ Told r4 rs cs4 from ⟨HF4.out.1, HF4.out.2, HW4.out, HM4.out.stop⟩)
                      clear hi HM4
                      go_wp2
                      go_roundg (10 - q - 1)
                      case measure => omega
                      case rel => exact ⟨q + 1, r4, cs4, by omega, by go_num, Lib.hid H4.out.1, HFX⟩
                · have dp : decide (0 < lf) = false := decide_eq_false hp
                  rw [dp] at HCG
                  have hch : chargeR (ch kk) r3 = r3 := by unfold chargeR; rw [if_neg (by rw [← HLFE.out]; exact hp)]
                  rw [hch] at HCG
                  clear hp hch dp
                  go_wp2_with (go_at_call 10; refine HCG.out.mono ?_; rintro e wb ⟨rfl, hd, hrest⟩; have HB4 := Lib.hid (H3.out.rest hd hrest); clear hd hrest)
                  go_roundg (10 - q - 1)
                  case measure => omega
                  case rel => exact ⟨q + 1, r3, cs3, by omega, by go_num, HB4, HF3⟩
              · have e2 : decide ((q : Int) < 10) = false := decide_eq_false (by omega)
                go_wp2
                go_loopg [23] rs.length (fun gh iv wx => ∃ i : Nat, i + gh = rs.length ∧ iv = .int .i64 i ∧ Hid (HoldAt w wx c M ch (.slice A rs.length cc) rs B r3 cs3))
                case atStart => exact ⟨0, by omega, rfl, H3⟩
                case round =>
                  obtain ⟨i, hi, rfl, H6⟩ := hrel
                  by_cases hil : i < rs.length
                  · have i0 : (0 : Int) ≤ (i : Int) := by omega
                    have i1 : (i : Int) < (rs.length : Int) := by omega
                    obtain ⟨y, hy⟩ : ∃ y, rs[i]? = some y := ⟨_, List.getElem?_eq_getElem hil⟩
                    obtain ⟨ki, rfl, hkl, hkis⟩ := HF3.out.1 y (List.mem_of_getElem? hy)
                    obtain ⟨gr, cr, hv, hfo, _, hcell, _, lgr3⟩ := H6.out.2.1.form (by omega)
                    simp only [Value.slice.injEq] at hv
                    obtain ⟨h94, h95, h93⟩ := hv
                    obtain ⟨x0, x1⟩ := refCells_at hy
                    have z0 := hcell _ _ x0
                    have z1 := hcell _ _ x1
                    obtain ⟨gi, hgi⟩ : ∃ gi, gi = (r3.pl ki).gen := ⟨_, rfl⟩
                    simp only at z0 z1
                    rw [← hgi] at z1
                    clear hfo hcell x0 x1 h93 h95
                    subst h94
                    have hwi := HF3.out.2.2.1 ki hkis
                    have hto := HF3.out.2.2.2 i _ hy
                    rw [Int.toNat_natCast] at hto
                    have HG := Lib.hid (H6.out.1.get hkis hgi.symm)
                    have hXp : (r3.get ch (ki : Nat) gi).cpu = (r3.pl ki).cpu ∧ (r3.get ch (ki : Nat) gi).used = (r3.pl ki).used := ⟨rfl, rfl⟩
                    obtain ⟨X, hX⟩ : ∃ X, X = r3.get ch (ki : Nat) gi := ⟨_, rfl⟩
                    rw [← hX] at HG hXp
                    obtain ⟨X0, X1, X2, X3, X4, X5, X6, X7, X8, X9, X10⟩ := X
                    simp only at hXp
                    rw [← hXp.1, ← hXp.2] at hwi
                    rw [← hXp.2] at hto
                    have HTO := Lib.hid hto
                    have e7 : (X9 == X9) = true := beq_self_eq_true X9
                    have e8 : decide (X3 < X9) = false := decide_eq_false (by omega)
                    have e9 : decide (X9 > X3) = false := decide_eq_false (by omega)
                    clear hy hkis hgi hkl hX hXp hwi hto
                    go_wp2_with (go_at_call 27; refine HG.out.mono ?_; rintro e v1 ⟨rfl, hc⟩; have HB := Lib.hid ((H6.out.quiet hc).quiet ((Chg.refl [] v1).alloc (.cells #[.int .i64 X0, .int .u64 X1, .int .i64 X2, .int .u64 X3, .int .u64 X4, .int .i64 X5, .int .u64 X6, .int .i64 X7, .int .i64 X8, .int .u64 X9, .int .i64 X10] 59))); have hcl := (H6.out.quiet hc).cell HTO.out; have z2 := hcl.1; have z3 := hcl.2.1; have z4 := hcl.2.2; clear hc hcl)
                    go_quiet (fail)
                    go_wp2
                    go_roundg (rs.length - i - 1)
                    case measure => omega
                    case rel => exact ⟨i + 1, by omega, by go_num, Lib.hid (HB.out.quiet ((Chg.refl _ _).drewN _))⟩
                  · obtain rfl : rs.length = i := by omega
                    clear hi
                    go_wp2
                    go_roundg (m - jj)
                    case measure => omega
                    case rel => exact ⟨jj + 1, r3, cs3, by omega, by omega, by go_num, H6, HF3⟩
            · have e1 : decide ((q : Int) < (lj.length : Int)) = false := decide_eq_false (by omega)
              go_wp2
              go_loopg [23] rs.length (fun gh iv wx => ∃ i : Nat, i + gh = rs.length ∧ iv = .int .i64 i ∧ Hid (HoldAt w wx c M ch (.slice A rs.length cc) rs B r3 cs3))
              case atStart => exact ⟨0, by omega, rfl, H3⟩
              case round =>
                obtain ⟨i, hi, rfl, H6⟩ := hrel
                by_cases hil : i < rs.length
                · have i0 : (0 : Int) ≤ (i : Int) := by omega
                  have i1 : (i : Int) < (rs.length : Int) := by omega
                  obtain ⟨y, hy⟩ : ∃ y, rs[i]? = some y := ⟨_, List.getElem?_eq_getElem hil⟩
                  obtain ⟨ki, rfl, hkl, hkis⟩ := HF3.out.1 y (List.mem_of_getElem? hy)
                  obtain ⟨gr, cr, hv, hfo, _, hcell, _, lgr3⟩ := H6.out.2.1.form (by omega)
                  simp only [Value.slice.injEq] at hv
                  obtain ⟨h94, h95, h93⟩ := hv
                  obtain ⟨x0, x1⟩ := refCells_at hy
                  have z0 := hcell _ _ x0
                  have z1 := hcell _ _ x1
                  obtain ⟨gi, hgi⟩ : ∃ gi, gi = (r3.pl ki).gen := ⟨_, rfl⟩
                  simp only at z0 z1
                  rw [← hgi] at z1
                  clear hfo hcell x0 x1 h93 h95
                  subst h94
                  have hwi := HF3.out.2.2.1 ki hkis
                  have hto := HF3.out.2.2.2 i _ hy
                  rw [Int.toNat_natCast] at hto
                  have HG := Lib.hid (H6.out.1.get hkis hgi.symm)
                  have hXp : (r3.get ch (ki : Nat) gi).cpu = (r3.pl ki).cpu ∧ (r3.get ch (ki : Nat) gi).used = (r3.pl ki).used := ⟨rfl, rfl⟩
                  obtain ⟨X, hX⟩ : ∃ X, X = r3.get ch (ki : Nat) gi := ⟨_, rfl⟩
                  rw [← hX] at HG hXp
                  obtain ⟨X0, X1, X2, X3, X4, X5, X6, X7, X8, X9, X10⟩ := X
                  simp only at hXp
                  rw [← hXp.1, ← hXp.2] at hwi
                  rw [← hXp.2] at hto
                  have HTO := Lib.hid hto
                  have e7 : (X9 == X9) = true := beq_self_eq_true X9
                  have e8 : decide (X3 < X9) = false := decide_eq_false (by omega)
                  have e9 : decide (X9 > X3) = false := decide_eq_false (by omega)
                  clear hy hkis hgi hkl hX hXp hwi hto
                  go_wp2_with (go_at_call 27; refine HG.out.mono ?_; rintro e v1 ⟨rfl, hc⟩; have HB := Lib.hid ((H6.out.quiet hc).quiet ((Chg.refl [] v1).alloc (.cells #[.int .i64 X0, .int .u64 X1, .int .i64 X2, .int .u64 X3, .int .u64 X4, .int .i64 X5, .int .u64 X6, .int .i64 X7, .int .i64 X8, .int .u64 X9, .int .i64 X10] 59))); have hcl := (H6.out.quiet hc).cell HTO.out; have z2 := hcl.1; have z3 := hcl.2.1; have z4 := hcl.2.2; clear hc hcl)
                  go_quiet (fail)
                  go_wp2
                  go_roundg (rs.length - i - 1)
                  case measure => omega
                  case rel => exact ⟨i + 1, by omega, by go_num, Lib.hid (HB.out.quiet ((Chg.refl _ _).drewN _))⟩
                · obtain rfl : rs.length = i := by omega
                  clear hi
                  go_wp2
                  go_roundg (m - jj)
                  case measure => omega
                  case rel => exact ⟨jj + 1, r3, cs3, by omega, by omega, by go_num, H6, HF3⟩
    · have HC := Lib.hid HH.out.chg
      clear HH HF
      have j1 : ¬ (jj : Int) ≤ (m : Int) := by omega
      have j2 : decide ((jj : Int) ≤ (m : Int)) = false := decide_eq_false j1
      go_wp2_with (go_at_call 9; refine (HK.out _).mono ?_; rintro e w2 ⟨rfl, hc⟩)
      go_ret
      exact ⟨rfl, HC.out.then hc⟩
end Go.Proofs
end
