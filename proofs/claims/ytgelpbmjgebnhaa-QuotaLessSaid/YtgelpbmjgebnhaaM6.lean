import Derived.Test.YtgelpbmjgebnhaaM5
import Derived.Laws.MakeOwn
import Derived.LoopTactic
section
namespace Go.Proofs
open Go.RowKit
set_option linter.unusedVariables false
set_option linter.unusedSimpArgs false

theorem rget_bd {r : RTab} (hf : r.Fine) (ch : Nat → List (Int × Int)) {k : Nat} {p : Pl} (hp : r.L[k]? = some p) (q : Int) :
    (0 ≤ (r.get ch (k : Nat) q).gs ∧ (r.get ch (k : Nat) q).gs ≤ 64) ∧ (0 ≤ (r.get ch (k : Nat) q).own ∧ (r.get ch (k : Nat) q).own ≤ 64) ∧ (0 ≤ (r.get ch (k : Nat) q).cpu ∧ (r.get ch (k : Nat) q).cpu ≤ 4294967296) ∧
    (0 ≤ (r.get ch (k : Nat) q).cgs ∧ (r.get ch (k : Nat) q).cgs ≤ 64000) ∧ (0 ≤ (r.get ch (k : Nat) q).car ∧ (r.get ch (k : Nat) q).car ≤ 4294967296000) ∧ (0 ≤ (r.get ch (k : Nat) q).live ∧ (r.get ch (k : Nat) q).live ≤ 64000) := by
  obtain ⟨a, b, c, _⟩ := hf.nums k p hp
  have hl := hf.len
  have hkl : (r.kids (k : Nat) q).length ≤ 1000 := by have := kidsTo_len r (k : Nat) q r.L.length; unfold RTab.kids; omega
  have hk : ∀ j ∈ r.kids (k : Nat) q, (0 ≤ (r.pl j).gs ∧ (r.pl j).gs ≤ 64) ∧ (0 ≤ (r.pl j).cpu ∧ (r.pl j).cpu ≤ 4294967296) := fun j hj => by
    have := kids_mem hj
    have hp' : r.L[j]? = some (r.L[j]) := List.getElem?_eq_getElem this
    rw [RTab.pl_eq hp']
    obtain ⟨a, b, c, _⟩ := hf.nums j _ hp'
    exact ⟨a, c⟩
  have s1 := sumL_bd (f := fun j => (r.pl j).gs) (B := 64) (r.kids (k : Nat) q) (fun j hj => (hk j hj).1)
  have s2 := sumL_bd (f := fun j => (r.pl j).cpu) (B := 4294967296) (r.kids (k : Nat) q) (fun j hj => (hk j hj).2)
  have s3 := sumN_bd (f := r.liveAt ch (k : Nat) q) (B := 64) r.L.length (fun j hj => by
    have hp' : r.L[j]? = some (r.L[j]) := List.getElem?_eq_getElem hj
    obtain ⟨_, b, _, _⟩ := hf.nums j _ hp'
    unfold RTab.liveAt
    rw [RTab.pl_eq hp']
    split <;> omega)
  have e : r.pl ((k : Nat) : Int).toNat = p := by rw [Int.toNat_natCast]; exact RTab.pl_eq hp
  refine ⟨by show 0 ≤ (r.pl _).gs ∧ (r.pl _).gs ≤ 64; rw [e]; exact a, by show 0 ≤ (r.pl _).own ∧ (r.pl _).own ≤ 64; rw [e]; exact b, by show 0 ≤ (r.pl _).cpu ∧ (r.pl _).cpu ≤ _; rw [e]; exact c, ?_, ?_, ?_⟩
  · show 0 ≤ r.cgs _ _ ∧ r.cgs _ _ ≤ _; unfold RTab.cgs; omega
  · show 0 ≤ r.car _ _ ∧ r.car _ _ ≤ _; unfold RTab.car; omega
  · show 0 ≤ r.live _ _ _ ∧ r.live _ _ _ ≤ _; unfold RTab.live; omega
def rcarveE (r : RTab) (ch : Nat → List (Int × Int)) (i q gs cpu per : Int) : Int :=
  if mayD gs cpu per then (if r.is i q then (if (r.get ch i q).gs < gs + (r.get ch i q).cgs + (r.get ch i q).own ∨ (r.get ch i q).cpu < cpu + (r.get ch i q).car then 15 else (if r.F = [] then 3 else 0)) else 11) else 2
def rkid (i q gs cpu per : Int) : Pl := ⟨0, false, gs, cpu, per, i, q, 0, 0⟩
def RTab.at0 (r : RTab) : Nat := r.F.getLast?.getD 0
def RTab.put (r : RTab) (x : Pl) : RTab := ⟨r.L.set r.at0 { x with gen := (r.pl r.at0).gen, is := true }, r.F.dropLast⟩
def RCv (h : Nat) (S : List Nat) (r : RTab) (ch : Nat → List (Int × Int)) (i q gs cpu per : Int) (w : World) (e : Ending) (w' : World) : Prop :=
  (rcarveE r ch i q gs cpu per ≠ 0 ∧ e = .returned (.tuple #[.agg #[.int .i64 0, .int .u64 0], .int .i64 (rcarveE r ch i q gs cpu per)]) ∧ Chg [] w w') ∨
  (rcarveE r ch i q gs cpu per = 0 ∧ e = .returned (.tuple #[.agg #[.int .i64 (r.at0 : Nat), .int .u64 (r.pl r.at0).gen], .int .i64 0]) ∧ RTurns h S (r.put (rkid i q gs cpu per)) w w')
def RBoxes (b : Nat) (i q : Int) (w : World) : Prop := Blk w b 34 #[.int .i64 i, .int .u64 q] ∧ Blk w (b + 1) 34 #[.int .i64 0, .int .u64 0]
theorem RBoxes.chg {b : Nat} {i q : Int} {w w' : World} (h : RBoxes b i q w) (hc : Chg [] w w') : RBoxes b i q w' := ⟨h.1.chg hc (by simp), h.2.chg hc (by simp)⟩
theorem rcv_boxes {w w1 : World} {i q : Int} (hc : Chg [] ((w.alloc (obRef i q)).alloc (obRef 0 0)) w1) : RBoxes w.heap.size i q w1 :=
  ⟨((Blk.new w 34 _).alloc _).chg hc (by simp), (Blk.at' _ 34 _ (by simp)).chg hc (by simp)⟩
theorem rcv_tell {b : Nat} {i q : Int} {w : World} (h : RBoxes b i q w) : b + 1 < w.heap.size ∧ w.cell? ⟨b, 0, none⟩ = some (.int .i64 i) ∧ w.cell? ⟨b, 1, none⟩ = some (.int .u64 q) ∧ w.cell? ⟨b + 1, 0, none⟩ = some (.int .i64 0) ∧ w.cell? ⟨b + 1, 1, none⟩ = some (.int .u64 0) ∧ ∀ o, w.frozen? ⟨b + 1, o, none⟩ = false :=
  ⟨h.2.lt, h.1.cell 0, h.1.cell 1, h.2.cell 0, h.2.cell 1, h.2.frozen⟩
theorem rput_at {w : World} {h : Nat} {S : List Nat} {r : RTab} (hr : RefAt w h S r) (hn : r.L.length ≤ 1000) (hF : r.F ≠ []) (hlt : ∀ f ∈ r.F, f < r.L.length) (hfl : r.F.length ≤ 1000) (x : Pl) :
    Calls Try.prog 59 #[ptr h, x.val] w fun e w' => e = .returned (.agg #[.int .i64 (r.at0 : Nat), .int .u64 (r.pl r.at0).gen]) ∧ RTurns h S (r.put x) w w' := by
  rcases List.eq_nil_or_concat r.F with h0 | ⟨F, f, hf⟩
  · exact absurd h0 hF
  · rw [List.concat_eq_append] at hf
    have hfl2 : f < r.L.length := hlt f (by rw [hf]; simp)
    have hp : r.L[f]? = some (r.L[f]) := List.getElem?_eq_getElem hfl2
    have e0 : r.at0 = f := by unfold RTab.at0; rw [hf]; simp
    have e1 : (r.pl r.at0) = r.L[f] := by rw [e0]; exact RTab.pl_eq hp
    have e2 : r.put x = ⟨r.L.set f { x with gen := (r.L[f]).gen, is := true }, F⟩ := by unfold RTab.put; rw [e1, e0, hf]; simp
    rw [e2, e1, e0]
    exact rput_any hr hn hf hp (by rw [hf] at hfl; simp at hfl; omega) x
set_option maxHeartbeats 6400000 in
set_option maxRecDepth 100000 in
theorem rcarve_any {w : World} {h : Nat} {S : List Nat} {r : RTab} (hr : RefAt w h S r) (h0 : 0 < r.L.length) (hf : r.Fine) {ch : Nat → List (Int × Int)} (hch : r.Chs ch) (hlt : ∀ f ∈ r.F, f < r.L.length) (hfl : r.F.length ≤ 1000) {i q gs cpu per : Int} (hc0 : 0 ≤ cpu) (hp0 : 0 ≤ per) :
    Calls Try.prog 35 #[ptr h, .agg #[.int .i64 i, .int .u64 q], .int .i64 gs, .int .u64 cpu, .int .u64 per] w (RCv h S r ch i q gs cpu per w) := by
  have HM := Lib.hid (fun W => mayD_any 31 (.inr rfl) gs cpu per hc0 hp0 W)
  have HI := Lib.hid (fun W (hW : Chg [] w W) => ris_any (hr.quiet hW) h0 i q)
  cases hm : mayD gs cpu per with
  | false =>
    have HEE := Lib.hid (show rcarveE r ch i q gs cpu per = 2 by unfold rcarveE; rw [hm]; rfl)
    rw [hm] at HM
    clear hm hr hf hch hlt
    go_enter Try.func35, Try.ntmps35
    go_wp2_with (first | (go_at_call 31; refine (HM.out _).mono ?_; rintro e w' ⟨rfl, rfl⟩))
    refine bodyPost_ret (v := .tuple #[.agg #[.int .i64 0, .int .u64 0], .int .i64 2]) (by simp [results, Try.results35, go_sem, Nat.add_zero]) rfl (.inl ⟨by rw [HEE.out]; omega, by rw [HEE.out], by repeat' (first | with_reducible exact Chg.refl _ _ | with_reducible apply Chg.alloc | with_reducible apply Chg.drew | with_reducible apply Chg.setCell | (with_reducible refine Or.inr ?_; dsimp only; omega))⟩)
  | true =>
    rw [hm] at HM
    cases hq : r.is i q with
    | false =>
      have HEE := Lib.hid (show rcarveE r ch i q gs cpu per = 11 by unfold rcarveE; rw [hm, hq]; rfl)
      rw [hq] at HI
      clear hm hq hr hf hch hlt
      go_enter Try.func35, Try.ntmps35
      go_wp2_with (first | (go_at_call 31; refine (HM.out _).mono ?_; rintro e w' ⟨rfl, rfl⟩) | (go_at_call 40; refine (HI.out _ (((Chg.refl _ _).alloc _).alloc _)).mono ?_; rintro e w1 ⟨rfl, hc⟩; have HB1 := Lib.hid (rcv_boxes hc); have hb1 := HB1.out; obtain ⟨l1, b0, b1, d0, d1, df⟩ := rcv_tell hb1; have HC1 := Lib.hid ((((Chg.refl [] w).alloc _).alloc _).then hc); clear hc hb1))
      refine bodyPost_ret (v := .tuple #[.agg #[.int .i64 0, .int .u64 0], .int .i64 11]) (by simp [results, Try.results35, go_sem, d0, d1, l1]) rfl (.inl ⟨by rw [HEE.out]; omega, by rw [HEE.out], by repeat' (first | with_reducible exact HC1.out | with_reducible apply Chg.alloc | with_reducible apply Chg.drew | with_reducible apply Chg.setCell | (with_reducible refine Or.inr ?_; dsimp only; omega))⟩)
    | true =>
      rw [hq] at HI
      obtain ⟨k, p, rfl, hp, h3, h4⟩ := ris_iff.1 hq
      have HG := Lib.hid (fun W (hW : Chg [] w W) => rget_any (hr.quiet hW) hf hch hp q)
      obtain ⟨x1, x2, x3, x4, x5, x6⟩ := rget_bd hf ch hp q
      obtain ⟨m0, m1, m2, m3, m4⟩ := mayD_iff.1 hm
      have HRE := Lib.hid (show rcarveE r ch (k : Nat) q gs cpu per = if (r.get ch (k : Nat) q).gs < gs + (r.get ch (k : Nat) q).cgs + (r.get ch (k : Nat) q).own ∨ (r.get ch (k : Nat) q).cpu < cpu + (r.get ch (k : Nat) q).car then 15 else (if r.F = [] then 3 else 0) by unfold rcarveE; rw [if_pos hm, if_pos hq])
      obtain ⟨x, hx⟩ : ∃ x, x = r.get ch (k : Nat) q := ⟨_, rfl⟩
      rw [← hx] at HG HRE x1 x2 x3 x4 x5 x6
      have e1 : IntKind.i64.wrap (gs + x.cgs) = gs + x.cgs := IntWalk.i64_in _ (by omega)
      have e2 : IntKind.i64.wrap (gs + x.cgs + x.own) = gs + x.cgs + x.own := IntWalk.i64_in _ (by omega)
      have e3 : IntKind.u64.wrap (cpu + x.car) = cpu + x.car := by rw [IntKind.wrap_u64]; omega
      have HP := Lib.hid (fun W (hW : Chg [] w W) (hne : r.F ≠ []) => rput_at (hr.quiet hW) hf.len hne hlt hfl (rkid (k : Nat) q gs cpu per))
      obtain ⟨VL, VF, hB, hL, hF, hSS⟩ := id hr
      obtain ⟨AF, cF, rfl, _⟩ := hF.val
      have HFB := Lib.hid (fun W (hW : Chg [] w W) => (hB.chg hW (by simp)).cell 1)
      have lh := hB.lt
      obtain ⟨m, hmm⟩ : ∃ m, m = r.F.length := ⟨_, rfl⟩
      rw [← hmm] at HFB
      clear hm hq hp h3 h4 hx hB hL hF hf hch hlt hfl x1 x2 x3 x4 x5 x6 m0 m1 m2 m3 m4
      by_cases g0 : x.gs < gs + x.cgs + x.own
      · have HEE := Lib.hid (show rcarveE r ch (k : Nat) q gs cpu per = 15 by rw [HRE.out, if_pos (.inl g0)])
        clear hr hmm
        go_enter Try.func35, Try.ntmps35
        go_wp2_with (first | (go_at_call 31; refine (HM.out _).mono ?_; rintro e w' ⟨rfl, rfl⟩) | (go_at_call 40; refine (HI.out _ (((Chg.refl _ _).alloc _).alloc _)).mono ?_; rintro e w1 ⟨rfl, hc⟩; have HB1 := Lib.hid (rcv_boxes hc); have hb1 := HB1.out; obtain ⟨l1, b0, b1, d0, d1, df⟩ := rcv_tell hb1; have HC1 := Lib.hid ((((Chg.refl [] w).alloc _).alloc _).then hc); clear hc hb1) | (go_at_call 43; refine (HG.out _ HC1.out).mono ?_; rintro e w2 ⟨rfl, hc⟩; have HB2 := Lib.hid (HB1.out.chg hc); have hb2 := HB2.out; obtain ⟨l2, b20, b21, d20, d21, d2f⟩ := rcv_tell hb2; have l20 : w.heap.size < w2.heap.size := (by omega); have HC2 := Lib.hid (HC1.out.then hc); clear hc hb2))
        refine bodyPost_ret (v := .tuple #[.agg #[.int .i64 0, .int .u64 0], .int .i64 15]) (by simp [results, Try.results35, go_sem, d20, d21, l2]) rfl (.inl ⟨by rw [HEE.out]; omega, by rw [HEE.out], by repeat' (first | with_reducible exact HC2.out | with_reducible apply Chg.alloc | with_reducible apply Chg.drew | with_reducible apply Chg.setCell | (with_reducible refine Or.inr ?_; dsimp only; omega))⟩)
      · by_cases g1 : x.cpu < cpu + x.car
        · have HEE := Lib.hid (show rcarveE r ch (k : Nat) q gs cpu per = 15 by rw [HRE.out, if_pos (.inr g1)])
          clear hr hmm
          go_enter Try.func35, Try.ntmps35
          go_wp2_with (first | (go_at_call 31; refine (HM.out _).mono ?_; rintro e w' ⟨rfl, rfl⟩) | (go_at_call 40; refine (HI.out _ (((Chg.refl _ _).alloc _).alloc _)).mono ?_; rintro e w1 ⟨rfl, hc⟩; have HB1 := Lib.hid (rcv_boxes hc); have hb1 := HB1.out; obtain ⟨l1, b0, b1, d0, d1, df⟩ := rcv_tell hb1; have HC1 := Lib.hid ((((Chg.refl [] w).alloc _).alloc _).then hc); clear hc hb1) | (go_at_call 43; refine (HG.out _ HC1.out).mono ?_; rintro e w2 ⟨rfl, hc⟩; have HB2 := Lib.hid (HB1.out.chg hc); have hb2 := HB2.out; obtain ⟨l2, b20, b21, d20, d21, d2f⟩ := rcv_tell hb2; have l20 : w.heap.size < w2.heap.size := (by omega); have HC2 := Lib.hid (HC1.out.then hc); clear hc hb2))
          refine bodyPost_ret (v := .tuple #[.agg #[.int .i64 0, .int .u64 0], .int .i64 15]) (by simp [results, Try.results35, go_sem, d20, d21, l2]) rfl (.inl ⟨by rw [HEE.out]; omega, by rw [HEE.out], by repeat' (first | with_reducible exact HC2.out | with_reducible apply Chg.alloc | with_reducible apply Chg.drew | with_reducible apply Chg.setCell | (with_reducible refine Or.inr ?_; dsimp only; omega))⟩)
        · by_cases hne : r.F = []
          · have HEE := Lib.hid (show rcarveE r ch (k : Nat) q gs cpu per = 3 by rw [HRE.out, if_neg (fun h => h.elim g0 g1), if_pos hne])
            have hm0 : m = 0 := by rw [hmm, hne]; rfl
            subst hm0
            clear hr hmm
            go_enter Try.func35, Try.ntmps35
            go_wp2_with (first | (go_at_call 31; refine (HM.out _).mono ?_; rintro e w' ⟨rfl, rfl⟩) | (go_at_call 40; refine (HI.out _ (((Chg.refl _ _).alloc _).alloc _)).mono ?_; rintro e w1 ⟨rfl, hc⟩; have HB1 := Lib.hid (rcv_boxes hc); have hb1 := HB1.out; obtain ⟨l1, b0, b1, d0, d1, df⟩ := rcv_tell hb1; have HC1 := Lib.hid ((((Chg.refl [] w).alloc _).alloc _).then hc); clear hc hb1) | (go_at_call 43; refine (HG.out _ HC1.out).mono ?_; rintro e w2 ⟨rfl, hc⟩; have HB2 := Lib.hid (HB1.out.chg hc); have hb2 := HB2.out; obtain ⟨l2, b20, b21, d20, d21, d2f⟩ := rcv_tell hb2; have l20 : w.heap.size < w2.heap.size := (by omega); have HC2 := Lib.hid (HC1.out.then hc); have fb := HFB.out _ HC2.out; have lh2 : h < w2.heap.size := Nat.lt_of_lt_of_le lh HC2.out.size; clear hc hb2))
            refine bodyPost_ret (v := .tuple #[.agg #[.int .i64 0, .int .u64 0], .int .i64 3]) (by simp [results, Try.results35, go_sem, d20, d21, l2]) rfl (.inl ⟨by rw [HEE.out]; omega, by rw [HEE.out], by repeat' (first | with_reducible exact HC2.out | with_reducible apply Chg.alloc | with_reducible apply Chg.drew | with_reducible apply Chg.setCell | (with_reducible refine Or.inr ?_; dsimp only; omega))⟩)
          · have HEE := Lib.hid (show rcarveE r ch (k : Nat) q gs cpu per = 0 by rw [HRE.out, if_neg (fun h => h.elim g0 g1), if_neg hne])
            have hm0 : ((m : Int) == 0) = false := by
              have : m ≠ 0 := fun e => hne (List.eq_nil_of_length_eq_zero (by omega))
              simpa using this
            have hm1 : m ≠ 0 := fun e => hne (List.eq_nil_of_length_eq_zero (by omega))
            have hm2 : (m == 0) = false := by simpa using hm1
            have HNE := Lib.hid hne
            obtain ⟨k0, hk0⟩ : ∃ k0 : Int, k0 = (r.at0 : Nat) := ⟨_, rfl⟩
            obtain ⟨q0, hq0⟩ : ∃ q0, q0 = (r.pl r.at0).gen := ⟨_, rfl⟩
            rw [← hk0, ← hq0] at HP
            have HK0 := Lib.hid hk0
            have HQ0 := Lib.hid hq0
            have HRF := Lib.hid (fun W S' (h1 : RefAt W h S' (r.put (rkid (k : Nat) q gs cpu per))) => h1.lt)
            have HLT := Lib.hid hr.lt
            clear hr hmm hne hk0 hq0
            go_enter Try.func35, Try.ntmps35
            go_wp2_with (first | (go_at_call 31; refine (HM.out _).mono ?_; rintro e w' ⟨rfl, rfl⟩) | (go_at_call 40; refine (HI.out _ (((Chg.refl _ _).alloc _).alloc _)).mono ?_; rintro e w1 ⟨rfl, hc⟩; have HB1 := Lib.hid (rcv_boxes hc); have hb1 := HB1.out; obtain ⟨l1, b0, b1, d0, d1, df⟩ := rcv_tell hb1; have HC1 := Lib.hid ((((Chg.refl [] w).alloc _).alloc _).then hc); clear hc hb1) | (go_at_call 43; refine (HG.out _ HC1.out).mono ?_; rintro e w2 ⟨rfl, hc⟩; have HB2 := Lib.hid (HB1.out.chg hc); have hb2 := HB2.out; obtain ⟨l2, b20, b21, d20, d21, d2f⟩ := rcv_tell hb2; have l20 : w.heap.size < w2.heap.size := (by omega); have HC2 := Lib.hid (HC1.out.then hc); have fb := HFB.out _ HC2.out; have lh2 : h < w2.heap.size := Nat.lt_of_lt_of_le lh HC2.out.size; clear hc hb2) | (go_at_call 59; refine (HP.out _ (HC2.out.alloc (obX x)) HNE.out).mono ?_; rintro e w3 ⟨rfl, hT⟩; have HT := Lib.hid hT; have hb3 := (HB2.out.2.alloc (obX x)).chg (S := S) (by obtain ⟨_, _, _, h⟩ := hT; exact h) (fun hm => by have := HLT.out _ hm; omega); have HB3 := Lib.hid hb3; have z0 := hb3.cell 0; have z1 := hb3.cell 1; have zf := hb3.frozen; have lz := hb3.lt; clear hT hb3))
            refine bodyPost_ret (v := .tuple #[.agg #[.int .i64 k0, .int .u64 q0], .int .i64 0]) (by simp [results, Try.results35, go_sem, z0, z1, lz]) rfl (.inr ⟨HEE.out, by rw [HK0.out, HQ0.out], ?_⟩)
            refine (HT.out.earlier (HC2.out.alloc (obX x))).box HB3.out (by decide) (by decide) (by decide) (by omega) ?_
            repeat' (first | with_reducible exact Chg.refl _ _ | with_reducible apply Chg.drew | with_reducible apply Chg.setCell | (with_reducible refine Or.inl ?_; simp; done))
end Go.Proofs
end
section
namespace Go.Proofs
open Go.RowKit
set_option linter.unusedVariables false
set_option linter.unusedSimpArgs false

def RTab.with (r : RTab) (k : Nat) (p : Pl) : RTab := { r with L := r.L.set k p }
set_option maxHeartbeats 3200000 in
set_option maxRecDepth 100000 in
theorem ruse_any {w : World} {h : Nat} {S : List Nat} {r : RTab} (hr : RefAt w h S r) (h0 : 0 < r.L.length) (hf : r.Fine) {i q : Int} (n9 : Int) (n0 : 0 ≤ n9) (n1 : n9 < 18446744073709551616) :
    Calls Try.prog 13 #[ptr h, .agg #[.int .i64 i, .int .u64 q], .int .u64 n9] w fun e w' => e = .returned (.int .i64 (if r.is i q then 0 else 11)) ∧ RTurns h S (if r.is i q then { r with L := r.L.set i.toNat { r.pl i.toNat with used := addS (r.pl i.toNat).used n9 } } else r) w w' := by
  obtain ⟨gl, cl, A9, cF, hne, hcl, _, lg, lh, htell⟩ := hr.tell h0
  have HI := Lib.hid (fun W (hW : Chg [] w W) => ris_any (hr.quiet hW) h0 i q)
  have HRR := Lib.hid hr
  cases hq : r.is i q with
  | false =>
    simp only [hq, Bool.false_eq_true, if_false, Int.reduceEq, reduceCtorEq]
    rw [hq] at HI
    clear hq hr htell
    go_enter Try.func13, Try.ntmps13
    go_wp2_with (first | (go_at_call 40; refine (HI.out _ ((Chg.refl _ _).alloc _)).mono ?_; rintro e w1 ⟨rfl, hc⟩; have HC1 := Lib.hid (((Chg.refl [] w).alloc _).then hc); clear hc))
    go_ret
    exact ⟨rfl, RTurns.refl HRR.out HC1.out⟩
  | true =>
    rw [hq] at HI
    obtain ⟨k, p, rfl, hp, h3, h4⟩ := ris_iff.1 hq
    have HPP := Lib.hid hp
    have HT := Lib.hid htell
    obtain ⟨hn1, hn2, hn3, hn4⟩ := hf.nums k p hp
    have hfl := hf.len
    have hkn := (List.getElem?_eq_some_iff.1 hp).1
    have ha00 := (htell w (Chg.refl _ _)).1
    have HA00 := Lib.hid ha00
    have HROW := Lib.hid (hr.row ha00)
    have hpk : r.pl ((k : Nat) : Int).toNat = p := by rw [Int.toNat_natCast]; exact RTab.pl_eq hp
    have i0 : (0 : Int) ≤ (k : Int) := by omega
    have HW := Lib.hid (fun (w1 : World) (hc : Chg [] w w1) (p' : Pl) (j : Nat) (u : Value) (hy : p'.cells = p.cells.set j u) (hj : j < 9) => RTurns.write (W2 := w1.setCell ⟨gl, k * 9 + j, none⟩ u) (p' := p') HRR.out HA00.out hc ((Chg.refl _ _).setCell (.inl (by simp)) _) (by rw [pl_set HPP.out hy hj]; exact (HROW.out.chg hc (fun _ _ h => by cases h)).set_ (by omega) u))
    rw [hpk]
    simp only [hq, if_true, Int.toNat_natCast]
    have e1 : IntKind.u64.wrap (18446744073709551615 - p.used) = 18446744073709551615 - p.used := by rw [IntKind.wrap_u64]; omega
    obtain ⟨n, hnn⟩ : ∃ n, n = r.L.length := ⟨_, rfl⟩
    have HN := Lib.hid hnn
    rw [← hnn] at HT hkn hcl
    have i1 : (k : Int) < (n : Int) := by omega
    by_cases g0 : 18446744073709551615 - p.used < n9
    · have hv : addS p.used n9 = 18446744073709551615 := by unfold addS; rw [if_neg (by omega)]
      rw [hv]
      clear hr hf hp h3 h4 hq htell hpk hnn hn1 hn2 hn3 hn4 ha00 hv
      go_enter Try.func13, Try.ntmps13
      go_wp2_with (first | (go_at_call 40; refine (HI.out _ ((Chg.refl _ _).alloc _)).mono ?_; rintro e w1 ⟨rfl, hc⟩; obtain ⟨l1, b0, b1⟩ := ref_facts (w := w) rfl (Chg.refl [] _) hc; have HC1 := Lib.hid (((Chg.refl [] w).alloc _).then hc); obtain ⟨a0, _, lh1, lg1, fl1, _, hpl⟩ := HT.out _ HC1.out; obtain ⟨q0, q1, q2, q3, q4, q5, q6, q7, q8⟩ := hpl k p HPP.out; have f6 := fl1 (k * 9 + 7); have f7 := fl1 (k * 9 + 8); clear hc hpl))
      go_quiet (fail)
      go_wp2
      go_still_tail 8, (by kernel_rfl)
      (try change wpStill _ _ (World.drew _) _ _ _)
      (repeat still_step)
      (try refine wpStill_nil ?_)
      (try change wpList _ _ _ _ _ (World.drew _))
      go_wp2
      go_ret
      exact ⟨rfl, HW.out _ (HC1.out.drewN _).drew { p with used := 18446744073709551615 } 8 _ rfl (by omega)⟩
    · have hv : addS p.used n9 = p.used + n9 := by unfold addS; rw [if_pos (by omega)]
      have e2 : IntKind.u64.wrap (p.used + n9) = p.used + n9 := by rw [IntKind.wrap_u64]; omega
      rw [hv]
      clear hr hf hp h3 h4 hq htell hpk hnn hn1 hn2 hn3 hn4 ha00 hv
      go_enter Try.func13, Try.ntmps13
      go_wp2_with (first | (go_at_call 40; refine (HI.out _ ((Chg.refl _ _).alloc _)).mono ?_; rintro e w1 ⟨rfl, hc⟩; obtain ⟨l1, b0, b1⟩ := ref_facts (w := w) rfl (Chg.refl [] _) hc; have HC1 := Lib.hid (((Chg.refl [] w).alloc _).then hc); obtain ⟨a0, _, lh1, lg1, fl1, _, hpl⟩ := HT.out _ HC1.out; obtain ⟨q0, q1, q2, q3, q4, q5, q6, q7, q8⟩ := hpl k p HPP.out; have f6 := fl1 (k * 9 + 7); have f7 := fl1 (k * 9 + 8); clear hc hpl))
      go_quiet (fail)
      go_wp2
      go_still_tail 11, (by kernel_rfl)
      (try change wpStill _ _ (World.drew _) _ _ _)
      (repeat still_step)
      (try refine wpStill_nil ?_)
      (try change wpList _ _ _ _ _ (World.drew _))
      go_wp2
      go_ret
      exact ⟨rfl, HW.out _ (HC1.out.drewN _).drew { p with used := p.used + n9 } 8 _ rfl (by omega)⟩
set_option maxHeartbeats 3200000 in
set_option maxRecDepth 100000 in
theorem rclear_any {w : World} {h : Nat} {S : List Nat} {r : RTab} (hr : RefAt w h S r) (h0 : 0 < r.L.length) (hf : r.Fine) {i q : Int} :
    Calls Try.prog 42 #[ptr h, .agg #[.int .i64 i, .int .u64 q]] w fun e w' => e = .returned (.int .i64 (if r.is i q then 0 else 11)) ∧ RTurns h S (if r.is i q then { r with L := r.L.set i.toNat { r.pl i.toNat with used := 0 } } else r) w w' := by
  obtain ⟨gl, cl, A9, cF, hne, hcl, _, lg, lh, htell⟩ := hr.tell h0
  have HI := Lib.hid (fun W (hW : Chg [] w W) => ris_any (hr.quiet hW) h0 i q)
  have HRR := Lib.hid hr
  cases hq : r.is i q with
  | false =>
    simp only [hq, Bool.false_eq_true, if_false, Int.reduceEq, reduceCtorEq]
    rw [hq] at HI
    clear hq hr htell
    go_enter Try.func42, Try.ntmps42
    go_wp2_with (first | (go_at_call 40; refine (HI.out _ ((Chg.refl _ _).alloc _)).mono ?_; rintro e w1 ⟨rfl, hc⟩; have HC1 := Lib.hid (((Chg.refl [] w).alloc _).then hc); clear hc))
    go_ret
    exact ⟨rfl, RTurns.refl HRR.out HC1.out⟩
  | true =>
    rw [hq] at HI
    obtain ⟨k, p, rfl, hp, h3, h4⟩ := ris_iff.1 hq
    have HPP := Lib.hid hp
    have HT := Lib.hid htell
    obtain ⟨hn1, hn2, hn3, hn4⟩ := hf.nums k p hp
    have hfl := hf.len
    have hkn := (List.getElem?_eq_some_iff.1 hp).1
    have ha00 := (htell w (Chg.refl _ _)).1
    have HA00 := Lib.hid ha00
    have HROW := Lib.hid (hr.row ha00)
    have hpk : r.pl ((k : Nat) : Int).toNat = p := by rw [Int.toNat_natCast]; exact RTab.pl_eq hp
    have i0 : (0 : Int) ≤ (k : Int) := by omega
    have HW := Lib.hid (fun (w1 : World) (hc : Chg [] w w1) (p' : Pl) (j : Nat) (u : Value) (hy : p'.cells = p.cells.set j u) (hj : j < 9) => RTurns.write (W2 := w1.setCell ⟨gl, k * 9 + j, none⟩ u) (p' := p') HRR.out HA00.out hc ((Chg.refl _ _).setCell (.inl (by simp)) _) (by rw [pl_set HPP.out hy hj]; exact (HROW.out.chg hc (fun _ _ h => by cases h)).set_ (by omega) u))
    rw [hpk]
    simp only [hq, if_true, Int.toNat_natCast]
    obtain ⟨n, hnn⟩ : ∃ n, n = r.L.length := ⟨_, rfl⟩
    have HN := Lib.hid hnn
    rw [← hnn] at HT hkn hcl
    have i1 : (k : Int) < (n : Int) := by omega
    clear hr hf hp h3 h4 hq htell hpk hnn hn1 hn2 hn3 hn4 ha00
    go_enter Try.func42, Try.ntmps42
    go_wp2_with (first | (go_at_call 40; refine (HI.out _ ((Chg.refl _ _).alloc _)).mono ?_; rintro e w1 ⟨rfl, hc⟩; obtain ⟨l1, b0, b1⟩ := ref_facts (w := w) rfl (Chg.refl [] _) hc; have HC1 := Lib.hid (((Chg.refl [] w).alloc _).then hc); obtain ⟨a0, _, lh1, lg1, fl1, _, hpl⟩ := HT.out _ HC1.out; obtain ⟨q0, q1, q2, q3, q4, q5, q6, q7, q8⟩ := hpl k p HPP.out; have f6 := fl1 (k * 9 + 7); have f7 := fl1 (k * 9 + 8); clear hc hpl))
    go_still_tail 8, (by kernel_rfl)
    (try change wpStill _ _ (World.drew _) _ _ _)
    (repeat still_step)
    (try refine wpStill_nil ?_)
    (try change wpList _ _ _ _ _ (World.drew _))
    go_wp2
    go_ret
    exact ⟨rfl, HW.out _ HC1.out.drew { p with used := 0 } 8 _ rfl (by omega)⟩
end Go.Proofs
end
section
namespace Go.Proofs
open Go.RowKit
set_option linter.unusedVariables false
set_option linter.unusedSimpArgs false

theorem Try.pl_info : (Try.prog.info? 85).map (fun i => (i.zero, i.size, i.bytes)) = some (some (.agg #[.int .u64 0, .bool false, .int .i64 0, .int .u64 0, .int .u64 0, .int .i64 0, .int .u64 0, .int .i64 0, .int .u64 0]), 9, 72) := by kernel_rfl
theorem made_pl (n : Nat) : (madeCells #[.int .u64 0, .bool false, .int .i64 0, .int .u64 0, .int .u64 0, .int .i64 0, .int .u64 0, .int .i64 0, .int .u64 0] (n * 9)).toList = plCells (List.replicate n pl0) := by
  refine List.ext_getElem? fun j => ?_
  unfold madeCells
  rw [Array.getElem?_toList]
  by_cases h : j < n * 9
  · have hk : (List.replicate n pl0)[j / 9]? = some pl0 := by rw [List.getElem?_replicate, if_pos (by omega)]
    have key : ∀ m, m < 9 → ∃ u, (Pl.cells pl0)[m]? = some u ∧ (#[Value.int .u64 0, .bool false, .int .i64 0, .int .u64 0, .int .u64 0, .int .i64 0, .int .u64 0, .int .i64 0, .int .u64 0] : Array Value)[m]! = u := fun m hm =>
      match m, hm with
      | 0, _ => ⟨_, rfl, rfl⟩
      | 1, _ => ⟨_, rfl, rfl⟩
      | 2, _ => ⟨_, rfl, rfl⟩
      | 3, _ => ⟨_, rfl, rfl⟩
      | 4, _ => ⟨_, rfl, rfl⟩
      | 5, _ => ⟨_, rfl, rfl⟩
      | 6, _ => ⟨_, rfl, rfl⟩
      | 7, _ => ⟨_, rfl, rfl⟩
      | 8, _ => ⟨_, rfl, rfl⟩
    obtain ⟨u, hu1, hu2⟩ := key (j % 9) (Nat.mod_lt _ (by omega))
    have hr : (plCells (List.replicate n pl0))[j / 9 * 9 + j % 9]? = some u := flat_at (enc := Pl.cells) (s := 9) (fun _ => rfl) hk hu1
    rw [show j / 9 * 9 + j % 9 = j by omega] at hr
    rw [hr]
    simp only [Array.getElem?_map, Array.getElem?_range, h, if_true, Option.map_some, Option.some.injEq]
    exact hu2
  · rw [List.getElem?_eq_none (by rw [plCells_len, List.length_replicate]; omega), Array.getElem?_eq_none (by simp; omega)]
def pl1 : Pl := ⟨1, false, 0, 0, 0, 0, 0, 0, 0⟩
def newL (n k : Nat) : List Pl := List.replicate k pl1 ++ List.replicate (n - k) pl0
def newF (n k : Nat) : List Nat := (List.range k).map (fun i => n - 1 - i)
theorem newL_len {n k : Nat} (h : k ≤ n) : (newL n k).length = n := by unfold newL; simp; omega
theorem newF_len (n k : Nat) : (newF n k).length = k := by unfold newF; simp
theorem newF_succ (n k : Nat) : newF n (k + 1) = newF n k ++ [n - 1 - k] := by unfold newF; rw [List.range_succ, List.map_append]; rfl
theorem newL_at {n k : Nat} (h : k < n) : (newL n k)[k]? = some pl0 := by
  unfold newL
  rw [List.getElem?_append_right (by simp), List.length_replicate, Nat.sub_self, List.getElem?_replicate, if_pos (by omega)]
theorem newL_set {n k : Nat} (h : k < n) : (newL n k).set k pl1 = newL n (k + 1) := by
  unfold newL
  rw [List.set_append_right _ _ (by simp)]
  have e : n - k = (n - (k + 1)) + 1 := by omega
  rw [e, List.replicate_succ, List.length_replicate, Nat.sub_self, List.set_cons_zero, List.replicate_succ', List.append_assoc]
  rfl
def rtab0 (n : Nat) : RTab := ⟨List.replicate n pl1, newF n n⟩
theorem newL_full (n : Nat) : newL n n = List.replicate n pl1 := by unfold newL; simp
set_option maxHeartbeats 3200000 in
set_option maxRecDepth 100000 in
theorem rnew_any (n : Nat) (hn0 : 1 ≤ n) (hn : n ≤ 32) (gs cpu per : Int) (w : World) :
    Calls Try.prog 32 #[.int .i64 (n : Nat), .int .i64 gs, .int .u64 cpu, .int .u64 per] w fun e w' => ∃ h S, e = .returned (ptr h) ∧ RefAt w' h S ((rtab0 n).put (rkid 0 0 gs cpu per)) ∧ (∀ k ∈ S, w.heap.size ≤ k) ∧ Chg [] w w' := by
  obtain ⟨i0, hi0, hz0, hz1, hz2⟩ := info_parts Try.pl_info
  obtain ⟨ni, hj0, hy0, hy1, hy2⟩ := info_parts Try.num_info_C
  have hmk : ∀ W : World, (Instr.makeSlice 86 (.int .i64 (n : Nat)) (.int .i64 (n : Nat))).run Try.prog W = .ok (.slice (some ⟨W.heap.size, 0, none⟩) n n) (W.alloc (.cells (madeCells #[.int .u64 0, .bool false, .int .i64 0, .int .u64 0, .int .u64 0, .int .i64 0, .int .u64 0, .int .i64 0, .int .u64 0] (n * 9)) 85)) := fun W => by
    have h := run_make (P := Try.prog) W 86 85 i0 _ Try.underlying86 hi0 hz0 .i64 .i64 (n : Nat) (n : Nat) (by omega) (by omega) (by rw [hz2]; omega) (by omega)
    rw [hz1] at h
    simp only [Int.toNat_natCast] at h
    exact h
  have hrow : ∀ W : World, Row (W.alloc (.cells (madeCells #[.int .u64 0, .bool false, .int .i64 0, .int .u64 0, .int .u64 0, .int .i64 0, .int .u64 0, .int .i64 0, .int .u64 0] (n * 9)) 85)) 85 9 (.slice (some ⟨W.heap.size, 0, none⟩) n n) n (plCells (newL n 0)) := fun W => by
    refine ⟨by rw [plCells_len, newL_len (by omega)], .inr ⟨W.heap.size, n, _, rfl, Blk.new W 85 _, Nat.le_refl _, by unfold maxLen; omega, by rw [size_madeCells]; exact Nat.le_refl _, ?_⟩⟩
    rw [made_pl, List.take_of_length_le (by rw [plCells_len]; simp)]
    unfold newL; simp
  obtain ⟨MC, hMC⟩ : ∃ MC : Obj, MC = .cells (madeCells #[.int .u64 0, .bool false, .int .i64 0, .int .u64 0, .int .u64 0, .int .i64 0, .int .u64 0, .int .i64 0, .int .u64 0] (n * 9)) 85 := ⟨_, rfl⟩
  rw [← hMC] at hrow hmk
  have HROW := Lib.hid hrow
  clear hrow hMC
  go_enter Try.func32, Try.ntmps32
  go_wp2
  go_loopg [10] n (fun gh iv wr => ∃ (k : Nat) (A : Option Addr) (c : Nat), k + gh = n ∧ iv = .int .i64 k ∧ Hid (Blk wr (w.heap.size + 1) 88 #[.slice (some ⟨w.heap.size, 0, none⟩) n n, .slice A k c] ∧ Row wr 85 9 (.slice (some ⟨w.heap.size, 0, none⟩) n n) n (plCells (newL n k)) ∧ Row wr 3 1 (.slice A k c) k (numCells (newF n k)) ∧ (∀ j ∈ foot (.slice A k c), w.heap.size + 2 ≤ j) ∧ Chg [] w wr))
  case atStart => exact ⟨0, none, 0, by omega, rfl, Lib.hid ⟨Blk.at' _ 88 _ (by simp), (HROW.out w).alloc _, Row.nil _ _ _, fun j hj => (by cases hj), ((Chg.refl [] w).alloc _).alloc _⟩⟩
  case round =>
    obtain ⟨k, A, c, hk, rfl, HH⟩ := hrel
    obtain ⟨hB, hL, hF, hft, hc⟩ := HH.out
    have c0 := hB.cell 0
    have c1 := hB.cell 1
    have f1 := hB.frozen 1
    have lB := hB.lt
    have hsz := hc.size
    by_cases hlt : k < n
    · have i0 : (0 : Int) ≤ (k : Int) := by omega
      have i1 : (k : Int) < (n : Int) := by omega
      obtain ⟨g2, c2, hv, _, _, hcell, hfz, lgl⟩ := hL.form (by omega)
      simp only [Value.slice.injEq, Option.some.injEq, Addr.mk.injEq] at hv
      obtain ⟨⟨rfl, h91⟩, h92, h93⟩ := hv
      clear h91 h92 h93
      obtain ⟨q0, _⟩ := plCells_at (newL n k) k pl0 (newL_at hlt)
      have b0 := hcell _ _ q0
      have g0 := hfz (k * 9)
      have e1 : IntKind.i64.wrap ((n : Int) - 1) = (n : Int) - 1 := IntWalk.i64_in _ (by omega)
      have e2 : IntKind.i64.wrap ((n : Int) - 1 - (k : Int)) = ((n - 1 - k : Nat) : Int) := by rw [show (n : Int) - 1 - (k : Int) = ((n - 1 - k : Nat) : Int) by omega]; exact IntWalk.i64_in _ (by omega)
      have hn1 : w.heap.size + 1 ∉ foot (.slice A k c) := fun h => by have := hft _ h; omega
      have hn2 : (Value.slice A k c).ownBlock ≠ some (w.heap.size + 1) := fun e => hn1 (row_mem e)
      have hn3 : w.heap.size ∉ foot (.slice A k c) := fun h => by have := hft _ h; omega
      have hcS : Chg [w.heap.size] wr (wr.setCell ⟨w.heap.size, k * 9, none⟩ (.int .u64 1)) := (Chg.refl _ _).setCell (.inl (by simp)) _
      have HB := Lib.hid (hB.chg hcS (by simp))
      have HL := Lib.hid (show Row (wr.setCell ⟨w.heap.size, k * 9, none⟩ (.int .u64 1)) 85 9 (.slice (some ⟨w.heap.size, 0, none⟩) n n) n (plCells (newL n (k + 1))) by
        rw [← newL_set hlt, pl_set (p' := pl1) (newL_at hlt) (j := 0) (u := .int .u64 1) rfl (by omega)]
        exact hL.set_ (by omega) _)
      have HF := Lib.hid (hF.chg hcS (fun j hj e => hn3 (by simp at e; exact e ▸ hj)))
      have HFT := Lib.hid hft
      have HC := Lib.hid hc
      clear hB hL hF hft hc HH hcell hfz q0 hcS
      go_wp2_with (at_builtin; refine wpList_append_row _ rfl _ _ 62 (by rfl) 3 ni _ 1 8 Try.underlying62 hj0 hy0 hy1 hy2 rfl (.slice A k c) k (numCells (newF n k)) (by rfl) (HF.out.alloc _) ⟨wr.heap.size, 0, none⟩ 1 1 [.int .i64 ((n - 1 - k : Nat) : Int)] (by rfl) (by rfl) (World.news_of_block (cs := #[.int .i64 ((n - 1 - k : Nat) : Int)]) (t := 3) (fr := (0, 0)) (by have h9 := heap_alloc_new (wr.setCell ⟨w.heap.size, k * 9, none⟩ (.int .u64 1)) (.cells #[.int .i64 ((n - 1 - k : Nat) : Int)] 3); simpa [World.setCell] using h9)) (by simp [Value.oneCell']) (by omega) (by unfold maxLen; omega) (by omega) (wr.heap.size + 1) (by simp [World.setCell]) ?_; intro gg cap w1 hown hgrow hat hlt1; have d1 := (hgrow.cell_far ⟨w.heap.size + 1, 1, none⟩ (by simp [World.setCell]; omega) (Ne.symm hn2)).trans ((HB.out.alloc _).cell 1); have df := (hgrow.frozen_far ⟨w.heap.size + 1, 1, none⟩ (by simp [World.setCell]; omega) (Ne.symm hn2)).trans ((HB.out.alloc _).frozen 1); have HOWN := Lib.hid hown; have HG := Lib.hid hgrow; have HAT := Lib.hid hat; clear hown hgrow hat)
      go_roundg (n - k - 1)
      case measure => omega
      case rel =>
        have hgg : gg ∈ foot (.slice A k c) ∨ gg = wr.heap.size + 1 := HAT.out.imp (fun h => row_mem h) id
        have hgb : w.heap.size + 2 ≤ gg := hgg.elim (fun h => HFT.out _ h) (fun h => by omega)
        have hc12 : Chg (foot (.slice A k c)) (wr.setCell ⟨w.heap.size, k * 9, none⟩ (.int .u64 1)) w1 := ((Chg.refl _ _).alloc _).grown HG.out (fun j hj => .inl (row_mem hj))
        have hcF : Chg [w.heap.size + 1] w1 (w1.setCell ⟨w.heap.size + 1, 1, none⟩ (.slice (some ⟨gg, 0, none⟩) (k + 1) cap)) := (Chg.refl _ _).setCell (.inl (by simp)) _
        refine ⟨k + 1, some ⟨gg, 0, none⟩, cap, by omega, by go_num, Lib.hid ⟨(HB.out.chg hc12 hn1).set_ 1 _, (HL.out.chg hc12 (fun j hj => by simp [foot_some] at hj; subst hj; exact hn3)).chg hcF (fun j hj => by simp [foot_some] at hj; subst hj; simp), ?_, fun j hj => by simp [foot_some] at hj; subst hj; exact hgb, ?_⟩⟩
        · rw [newF_succ, numCells_snoc]
          exact HOWN.out.far (by simp [foot_some]; omega) _
        · exact (((HC.out.setCell (.inr (by simp)) _).any.trans hc12 (fun j hj => .inl hj)).mono (S' := []) (fun j hj => .inr (by have := HFT.out j hj; omega))).trans hcF (fun j hj => by simp at hj; subst hj; right; omega)
    · obtain rfl : n = k := by omega
      have hR : RefAt wr (w.heap.size + 1) ((w.heap.size + 1) :: (foot (.slice (some ⟨w.heap.size, 0, none⟩) n n) ++ foot (.slice A n c))) (rtab0 n) := by
        refine ⟨_, _, hB, ?_, ?_, rfl⟩
        · rw [newL_full] at hL
          show Row _ 85 9 _ (List.replicate n pl1).length _
          rw [List.length_replicate]; exact hL
        · show Row _ 3 1 _ (newF n n).length _
          rw [newF_len]; exact hF
      have HP := Lib.hid (rput_at hR (by show (List.replicate n pl1).length ≤ 1000; simp; omega) (by show newF n n ≠ []; intro e; have := newF_len n n; rw [e] at this; simp at this; omega) (fun f hf => by
        show f < (List.replicate n pl1).length
        have : f ∈ newF n n := hf
        unfold newF at this
        simp at this
        obtain ⟨a, ha, rfl⟩ := this
        simp; omega) (by show (newF n n).length ≤ 1000; rw [newF_len]; omega) (rkid 0 0 gs cpu per))
      have HFT := Lib.hid hft
      have HC := Lib.hid hc
      obtain ⟨T0, hT0⟩ : ∃ T0, T0 = (rtab0 n).put (rkid 0 0 gs cpu per) := ⟨_, rfl⟩
      rw [← hT0] at HP
      have HT0 := Lib.hid hT0
      clear hB hL hF hft hc HH hR c0 c1 f1 hT0
      go_wp2_with (go_at_call 59; refine HP.out.mono ?_; rintro e w2 ⟨rfl, hT⟩; have HT := Lib.hid hT; clear hT)
      go_ret
      obtain ⟨S2, h1, h2, h3⟩ := HT.out
      refine ⟨w.heap.size + 1, S2, rfl, by rw [← HT0.out]; exact h1, fun j hj => ?_, ?_⟩
      · rcases h2 j hj with h | h
        · simp only [List.mem_cons, List.mem_append] at h
          rcases h with rfl | h | h
          · omega
          · simp [foot_some] at h; omega
          · have := HFT.out j h; omega
        · have := HC.out.size; omega
      · refine HC.out.trans h3 (fun j hj => ?_)
        simp only [List.mem_cons, List.mem_append] at hj
        right
        rcases hj with rfl | h | h
        · omega
        · simp [foot_some] at h; omega
        · have := HFT.out j h; omega
end Go.Proofs
end
section
namespace Go.Proofs
open Go.RowKit
set_option linter.unusedVariables false
set_option linter.unusedSimpArgs false

/-! ### Domains with their refs -/
  deriving instance DecidableEq for Dm
structure Plc where
  i : Int
  q : Int
  x : Dm
  deriving DecidableEq
abbrev Plc.val (p : Plc) : Value := .agg #[.int .i64 p.i, .int .u64 p.q, .int .i64 p.x.pi, .int .u64 p.x.pg, .int .i64 p.x.gs, .int .u64 p.x.cpu, .int .u64 p.x.per, .int .i64 p.x.cgs, .int .u64 p.x.car, .int .i64 p.x.own, .int .i64 p.x.live, .int .u64 p.x.used, .int .i64 p.x.ch]
abbrev Plc.arr (p : Plc) : Array Value := #[.int .i64 p.i, .int .u64 p.q, .int .i64 p.x.pi, .int .u64 p.x.pg, .int .i64 p.x.gs, .int .u64 p.x.cpu, .int .u64 p.x.per, .int .i64 p.x.cgs, .int .u64 p.x.car, .int .i64 p.x.own, .int .i64 p.x.live, .int .u64 p.x.used, .int .i64 p.x.ch]
def Plc.cells (p : Plc) : List Value := [.int .i64 p.i, .int .u64 p.q, .int .i64 p.x.pi, .int .u64 p.x.pg, .int .i64 p.x.gs, .int .u64 p.x.cpu, .int .u64 p.x.per, .int .i64 p.x.cgs, .int .u64 p.x.car, .int .i64 p.x.own, .int .i64 p.x.live, .int .u64 p.x.used, .int .i64 p.x.ch]
def plcCells (l : List Plc) : List Value := l.flatMap Plc.cells
theorem plcCells_len (l : List Plc) : (plcCells l).length = l.length * 13 := flat_len (enc := Plc.cells) (s := 13) (fun _ => rfl) l
theorem plcCells_snoc (l : List Plc) (p : Plc) : plcCells (l ++ [p]) = plcCells l ++ Plc.cells p := by unfold plcCells; simp
theorem plcCells_at {l : List Plc} {k : Nat} {p : Plc} (h : l[k]? = some p) : (plcCells l)[k * 13]? = some (.int .i64 p.i) ∧ (plcCells l)[k * 13 + 1]? = some (.int .u64 p.q) ∧ (plcCells l)[k * 13 + 2]? = some (.int .i64 p.x.pi) ∧ (plcCells l)[k * 13 + 3]? = some (.int .u64 p.x.pg) ∧ (plcCells l)[k * 13 + 4]? = some (.int .i64 p.x.gs) ∧ (plcCells l)[k * 13 + 5]? = some (.int .u64 p.x.cpu) ∧ (plcCells l)[k * 13 + 6]? = some (.int .u64 p.x.per) ∧ (plcCells l)[k * 13 + 7]? = some (.int .i64 p.x.cgs) ∧ (plcCells l)[k * 13 + 8]? = some (.int .u64 p.x.car) ∧ (plcCells l)[k * 13 + 9]? = some (.int .i64 p.x.own) ∧ (plcCells l)[k * 13 + 10]? = some (.int .i64 p.x.live) ∧ (plcCells l)[k * 13 + 11]? = some (.int .u64 p.x.used) ∧ (plcCells l)[k * 13 + 12]? = some (.int .i64 p.x.ch) := by
  have e := fun j u => flat_at (enc := Plc.cells) (s := 13) (fun _ => rfl) (j := j) (u := u) h
  exact ⟨e 0 _ rfl, e 1 _ rfl, e 2 _ rfl, e 3 _ rfl, e 4 _ rfl, e 5 _ rfl, e 6 _ rfl, e 7 _ rfl, e 8 _ rfl, e 9 _ rfl, e 10 _ rfl, e 11 _ rfl, e 12 _ rfl⟩
theorem Try.plc_info : (Try.prog.info? 90).map (fun i => (i.zero, i.size, i.bytes)) = some (some (.agg #[.int .i64 0, .int .u64 0, .int .i64 0, .int .u64 0, .int .i64 0, .int .u64 0, .int .u64 0, .int .i64 0, .int .u64 0, .int .i64 0, .int .i64 0, .int .u64 0, .int .i64 0]), 13, 104) := by kernel_rfl
theorem eq_ref_run (d : Nat) (a b c e : Int) (W : World) : (Op.equalIn (d + 2) 34 (.agg #[.int .i64 a, .int .u64 b]) (.agg #[.int .i64 c, .int .u64 e])).run Try.prog W = .ok (a == c && b == e) W := by
  have h1 : Try.prog.underlying 34 = some (.struct (Try.prog.fieldsOf 34)) := by kernel_rfl
  have h2 : Try.prog.stoodInHeld 34 = false := by kernel_rfl
  rw [run_equalIn_agg (ht := h1) (hp := h2)]
  simp [go_sem, Try.underlying34, Op.eqFields, Try.underlying3, Try.underlying22]
  by_cases e1 : a = c <;> by_cases e2 : b = e <;> simp [e1, e2]
set_option maxRecDepth 100000 in
set_option maxHeartbeats 1600000 in
theorem eq_dm_run (d : Nat) (a b : Dm) (W : World) : (Op.equalIn (d + 3) 59 a.val b.val).run Try.prog W = .ok (decide (a = b)) W := by
  have h1 : Try.prog.underlying 59 = some (.struct (Try.prog.fieldsOf 59)) := by kernel_rfl
  have h2 : Try.prog.stoodInHeld 59 = false := by kernel_rfl
  rw [run_equalIn_agg (ht := h1) (hp := h2)]
  obtain ⟨a0, a1, a2, a3, a4, a5, a6, a7, a8, a9, a10⟩ := a
  obtain ⟨b0, b1, b2, b3, b4, b5, b6, b7, b8, b9, b10⟩ := b
  have hr := fun W => eq_ref_run d a0 a1 b0 b1 W
  simp [go_sem, Try.underlying59, Op.eqFields, Try.underlying3, Try.underlying22, hr]
  by_cases e0 : a0 = b0
  · by_cases e1 : a1 = b1
    · by_cases e2 : a2 = b2
      · by_cases e3 : a3 = b3
        · by_cases e4 : a4 = b4
          · by_cases e5 : a5 = b5
            · by_cases e6 : a6 = b6
              · by_cases e7 : a7 = b7
                · by_cases e8 : a8 = b8
                  · by_cases e9 : a9 = b9
                    · by_cases e10 : a10 = b10
                      · simp [e0, e1, e2, e3, e4, e5, e6, e7, e8, e9, e10]
                      · simp [e0, e1, e2, e3, e4, e5, e6, e7, e8, e9, e10]
                    · simp [e0, e1, e2, e3, e4, e5, e6, e7, e8, e9]
                  · simp [e0, e1, e2, e3, e4, e5, e6, e7, e8]
                · simp [e0, e1, e2, e3, e4, e5, e6, e7]
              · simp [e0, e1, e2, e3, e4, e5, e6]
            · simp [e0, e1, e2, e3, e4, e5]
          · simp [e0, e1, e2, e3, e4]
        · simp [e0, e1, e2, e3]
      · simp [e0, e1, e2]
    · simp [e0, e1]
  · simp [e0]
set_option maxRecDepth 100000 in
set_option maxHeartbeats 1600000 in
theorem eq_plc_run (d : Nat) (a b : Plc) (W : World) : (Op.equalIn (d + 4) 90 a.val b.val).run Try.prog W = .ok (decide (a = b)) W := by
  have h1 : Try.prog.underlying 90 = some (.struct (Try.prog.fieldsOf 90)) := by kernel_rfl
  have h2 : Try.prog.stoodInHeld 90 = false := by kernel_rfl
  rw [run_equalIn_agg (ht := h1) (hp := h2)]
  obtain ⟨ai, aq, ax⟩ := a
  obtain ⟨bi, bq, bx⟩ := b
  have hr := fun W => eq_ref_run (d + 1) ai aq bi bq W
  have hd := fun W => eq_dm_run d ax bx W
  simp only [Plc.val]
  simp only [Dm.val] at hd
  simp [go_sem, Try.underlying90, Op.eqFields, hr, hd]
  by_cases e0 : ai = bi
  · by_cases e1 : aq = bq
    · by_cases e2 : ax = bx
      · simp [e0, e1, e2]
      · simp [e0, e1, e2]
    · simp [e0, e1]
  · simp [e0]
theorem neq_plc (a b : Plc) (W : World) : (binOp .neq 90 a.val b.val).run Try.prog W = .ok (.bool (!decide (a = b))) W := by
  rw [run_neq_struct, eq_plc_run 9996]; rfl
theorem eql_plc (a b : Plc) (W : World) : (binOp .eql 90 a.val b.val).run Try.prog W = .ok (.bool (decide (a = b))) W := by
  rw [run_eql_struct, eq_plc_run 9996]; rfl
theorem neq_dm (a b : Dm) (W : World) : (binOp .neq 59 a.val b.val).run Try.prog W = .ok (.bool (!decide (a = b))) W := by
  rw [run_neq_struct, eq_dm_run 9997]; rfl
theorem neq_refs (a b c e : Int) (W : World) : (binOp .neq 34 (.agg #[.int .i64 a, .int .u64 b]) (.agg #[.int .i64 c, .int .u64 e])).run Try.prog W = .ok (.bool (!(a == c && b == e))) W := by
  rw [run_neq_struct, eq_ref_run 9998]; rfl
end Go.Proofs
end
