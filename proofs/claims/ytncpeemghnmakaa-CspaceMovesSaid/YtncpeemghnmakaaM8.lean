import Derived.Test.YtncpeemghnmakaaM7
section
namespace Go.Proofs
open Go.RowKit
set_option linter.unusedVariables false
set_option linter.unusedSimpArgs false
section
variable {w : World} {a : Nat} {S : List Nat} {s : Sp}
/-- The number n alone, in a new row. -/
theorem Rd.oneN (w : World) (n : Nat) : Rd (w.alloc (.cells #[.int .i64 (n : Nat)] 3)) (.slice (some ⟨w.heap.size, 0, none⟩) [n].length 1) (iN [n]) := Rd.one w (n : Nat)
/-- The space's tree drops one, and then it leaves. -/
theorem SpAt.dropped (h : SpAt w a S s) {n : Nat} (hn : s.t.there n = true) {ht : Nat} (hht : w.cell? ⟨a, 2, none⟩ = some (ptr ht)) : ∀ W, Chg [] w W → Calls Try.prog 72 #[ptr ht, .int .i64 (n : Nat)] W fun e w1 => e = .returned (.int .i64 0) ∧
    Calls Try.prog 62 #[ptr a, .slice (some ⟨w1.heap.size, 0, none⟩) 1 1] (w1.alloc (.cells #[.int .i64 (n : Nat)] 3)) fun e w2 => e = .returned (.tuple #[]) ∧ STurns a S (s.drop n) w w2 := by
  intro W hW
  have hlt := h.lt
  obtain ⟨c, hR, hS, hWF⟩ := h
  obtain ⟨ht', St, hh, hSt, haS, hSS, hfin⟩ := hR.tree
  obtain rfl : ht' = ht := by
    have := (hh w (Chg.refl _ _)).1
    rw [hht] at this
    injection this with this
    injection this with this
    injection this with this
    injection this with this
    exact this.symm
  refine (drop_ok (hh W hW).2.2 hS hn).mono fun e w1 ⟨h1, c', hS', hT⟩ => ⟨h1, ?_⟩
  obtain ⟨St', t1, t2, t3⟩ := hT
  obtain ⟨S', r1, r2, r3, _⟩ := hfin W w1 c' St' hW t1 t2 t3
  have hlt1 := r1.lt
  have := leave_raw (r1.quiet ((Chg.refl _ _).alloc (.cells #[.int .i64 (n : Nat)] 3))) (by rw [hWF.len]; exact hWF.size.2) (fun k hk => by
    simp at hk
    subst hk
    exact Sp.slot_ok hWF.gs.2 hWF.slots.2 (hWF.at_ _ hn).1) (Rd.oneN w1 n) (fun k hk hkS => by simp [foot_some] at hk; subst hk; have := hlt1 _ hkS; omega) (fun k hk => by simp at hk; subst hk; exact hWF.lt hS.wf hn) (by simp)
  refine this.mono fun e w2 ⟨h1, h2, h3⟩ => ⟨h1, S', ⟨c', ?_, hS', hWF.drop hS.wf hn⟩, r2, (r3.alloc _).trans h3 r2⟩
  have hf := (hWF.at_ n hn).2.1
  have e1 : Lv.all ⟨s.t.len, s.f, s.H⟩ [n] = ⟨s.t.len - 1, del s.f (s.hd n).p, s.H.set n hd0⟩ := by
    show Lv.step _ n = _
    unfold Lv.step
    show (⟨s.t.len - (if (s.f (s.hd n).p).isSome then 1 else 0), _, _⟩ : Lv) = _
    rw [hf]
    rfl
  rw [e1] at h2
  have hl : (s.drop n).t.len = s.t.len - 1 := by
    have := Fo.len_drop hS.wf hn
    show (s.t.drop n).len = _
    omega
  rw [hl]
  exact h2
/-- The space's tree is pruned, and then they leave. -/
theorem SpAt.pruned (h : SpAt w a S s) {n : Nat} (hn : s.t.there n = true) {l : List Nat} (hl : Pre s.t (s.t.kids n) l) {ht : Nat} (hht : w.cell? ⟨a, 2, none⟩ = some (ptr ht)) : ∀ W, Chg [] w W → Calls Try.prog 61 #[ptr ht, .int .i64 (n : Nat)] W fun e w1 => ∃ A cc, e = .returned (.tuple #[.slice A l.length cc, .int .i64 0]) ∧
    Calls Try.prog 62 #[ptr a, .slice A l.length cc] w1 fun e w2 => e = .returned (.tuple #[]) ∧ STurns a S (s.prune n l) w w2 := by
  intro W hW
  have hlt := h.lt
  obtain ⟨c, hR, hS, hWF⟩ := h
  obtain ⟨ht', St, hh, hSt, haS, hSS, hfin⟩ := hR.tree
  obtain rfl : ht' = ht := by
    have := (hh w (Chg.refl _ _)).1
    rw [hht] at this
    injection this with this
    injection this with this
    injection this with this
    injection this with this
    exact this.symm
  refine (prune_ok (hh W hW).2.2 hS hn hl).mono fun e w1 ⟨A, cc, h1, hrd, hft, c', St', hS', t1, t2, t3, t4⟩ => ⟨A, cc, h1, ?_⟩
  obtain ⟨S', r1, r2, r3, r4⟩ := hfin W w1 c' St' hW t1 t2 t3
  have hll := hS.wf.pre_len hl
  have := hWF.size
  obtain ⟨q1, q2⟩ := hWF.prune hS.wf hl
  refine (leave_raw r1 (by rw [hWF.len]; exact hWF.size.2) (ns := l) (fun k hk => Sp.slot_ok hWF.gs.2 hWF.slots.2 (hWF.at_ k ((hl.desc k).1 hk |>.there hS.wf).2).1) hrd (fun k hk hkS => by
    rcases r4 k hkS with h1 | h1
    · have := hlt k h1; have := hft k hk; have := hW.size; omega
    · exact t4 k hk h1) (fun k hk => hWF.lt hS.wf ((hl.desc k).1 hk |>.there hS.wf).2) (by omega)).mono fun e w2 ⟨h1, h2, h3⟩ => ⟨h1, S', ⟨c', ?_, hS', q1⟩, r2, r3.trans h3 r2⟩
  rw [← q2]
  exact h2
end
end Go.Proofs
end
section
namespace Go.Proofs
open Go.RowKit
set_option linter.unusedVariables false
set_option linter.unusedSimpArgs false
section
variable {w : World} {a : Nat} {S : List Nat} {s : Sp}
set_option maxHeartbeats 3200000 in
set_option maxRecDepth 100000 in
theorem delete_ok (h : SpAt w a S s) {p : Pt} {n : Nat} (hz : s.slot p = true) (hf : s.f p = some n) : Calls Try.prog 33 #[ptr a, .int .i64 p.g, .int .i64 p.s] w fun e w' => e = .returned (.int .i64 0) ∧ STurns a S (s.drop n) w w' := by
  have H1 := Lib.hid (fun W (hc : Chg [] w W) => there_any (h.quiet hc).non)
  have H2 := Lib.hid (fun W (hc : Chg [] w W) => whas_any (h.quiet hc) p)
  have H3 := Lib.hid (fun W (hc : Chg [] w W) => wfilled_any (h.quiet hc) p)
  have HK := Lib.hid (show ∀ W, Chg [] (w.alloc (.cells #[.int .i64 p.g, .int .i64 p.s] 94)) W → W.cell? ⟨w.heap.size, 0, none⟩ = some (.int .i64 p.g) ∧ W.cell? ⟨w.heap.size, 1, none⟩ = some (.int .i64 p.s) from fun W hc => by
    have r0 := (((by have := Blk.new w 94 #[.int .i64 p.g, .int .i64 p.s]; simpa using this : Blk (w.alloc (.cells #[.int .i64 p.g, .int .i64 p.s] 94)) (w.heap.size) 94 #[.int .i64 p.g, .int .i64 p.s])).quiet hc).two
    exact ⟨r0.1, r0.2⟩)
  have HW0 := Lib.hid (show Chg [] w (w.alloc (.cells #[.int .i64 p.g, .int .i64 p.s] 94)) from ((Chg.refl _ _).alloc _))
  have HZ := Lib.hid (show s.fullE p = 0 by unfold Sp.fullE; rw [hz, hf]; rfl)
  obtain ⟨ht, bm, g, cH, i0, i1, hpl⟩ := h.place hz hf
  have HPL := Lib.hid hpl
  have hth := (h.wf.back p n hf).1
  have HD := Lib.hid (h.dropped hth (hpl w (Chg.refl _ _)).1)
  clear h hz hf hpl hth
  go_enter Try.func33, Try.ntmps33
  go_wp2
  go_region_held3 (fun w' => w'.cell? ⟨w.heap.size, 0, none⟩ = some (.int .i64 p.g) ∧ w'.cell? ⟨w.heap.size, 1, none⟩ = some (.int .i64 p.s))
    (first | go_keep)
    (first
      | (go_at_call 55; refine (H1.out _ HW0.out.drew).mono ?_; rintro e w1 ⟨F1, rfl, hc, hF⟩; have HC1 := Lib.hid (((Chg.refl _ _).drew).then hc : Chg [] (w.alloc (.cells #[.int .i64 p.g, .int .i64 p.s] 94)) w1); have HF1 := Lib.hid hF; have HD1 := Lib.hid hc; obtain ⟨k1_0, k1_1⟩ := HK.out _ HC1.out; clear hc hF)
      | (go_at_call 56; refine (H2.out _ (HW0.out.then HC1.out)).mono ?_; rintro e w2 ⟨F2, rfl, hc, hF⟩; have HC2 := Lib.hid (HC1.out.then hc); have HF2 := Lib.hid hF; have HD2 := Lib.hid hc; obtain ⟨k2_0, k2_1⟩ := HK.out _ HC2.out; clear hc hF)
      | (go_at_call 57; refine (H3.out _ (HW0.out.then HC2.out)).mono ?_; rintro e w3 ⟨F3, rfl, hc, hF⟩; have HC3 := Lib.hid (HC2.out.then hc); have HF3 := Lib.hid hF; have HD3 := Lib.hid hc; obtain ⟨k3_0, k3_1⟩ := HK.out _ HC3.out; clear hc hF)
      | (go_at_call 54; refine (refuse [(1, F1, true), (9, F2, s.slot p), (10, F3, (s.f p).isSome)] (n := 3) rfl (by decide) rfl ⟨(HF1.out trivial).quiet (HD2.out.then HD3.out), fun b0 => ⟨(HF2.out trivial).quiet HD3.out, fun b1 => ⟨HF3.out b1, fun b2 => trivial⟩⟩⟩).mono ?_; rintro e w4 ⟨he, hc⟩; replace he := he.trans (show _ = Ending.returned (.int .i64 0) by rw [← HZ.out]; rfl); subst he; have HC4 := Lib.hid (HC3.out.then hc); obtain ⟨k4_0, k4_1⟩ := HK.out _ HC4.out; clear hc))
  all_goals
    have hcw := HW0.out.then HC4.out
    obtain ⟨c2, c3, c4, la, lg, hlk, g2, g3, g4, g5⟩ := HPL.out _ hcw.drew
    have HD2 := Lib.hid (HD.out _ hcw.drew)
    clear hcw
    go_wp2
    go_region
    go_wp2_with (first
      | (go_at_call 72; refine HD2.out.mono ?_; rintro e wy ⟨rfl, hlv⟩; have HLV := Lib.hid hlv; clear hlv)
      | (go_at_call 62; refine HLV.out.mono ?_; rintro e wz ⟨rfl, hT⟩; have HT := Lib.hid hT; clear hT))
    go_ret
    exact ⟨rfl, HT.out⟩
set_option maxHeartbeats 3200000 in
set_option maxRecDepth 100000 in
theorem delete_no (h : SpAt w a S s) {p : Pt} (hz : s.fullE p ≠ 0) : Calls Try.prog 33 #[ptr a, .int .i64 p.g, .int .i64 p.s] w fun e w' => e = .returned (.int .i64 (s.fullE p)) ∧ Chg [] w w' := by
  have H1 := Lib.hid (fun W (hc : Chg [] w W) => there_any (h.quiet hc).non)
  have H2 := Lib.hid (fun W (hc : Chg [] w W) => whas_any (h.quiet hc) p)
  have H3 := Lib.hid (fun W (hc : Chg [] w W) => wfilled_any (h.quiet hc) p)
  have HK := Lib.hid (show ∀ W, Chg [] (w.alloc (.cells #[.int .i64 p.g, .int .i64 p.s] 94)) W → W.cell? ⟨w.heap.size, 0, none⟩ = some (.int .i64 p.g) ∧ W.cell? ⟨w.heap.size, 1, none⟩ = some (.int .i64 p.s) from fun W hc => by
    have r0 := (((by have := Blk.new w 94 #[.int .i64 p.g, .int .i64 p.s]; simpa using this : Blk (w.alloc (.cells #[.int .i64 p.g, .int .i64 p.s] 94)) (w.heap.size) 94 #[.int .i64 p.g, .int .i64 p.s])).quiet hc).two
    exact ⟨r0.1, r0.2⟩)
  have HW0 := Lib.hid (show Chg [] w (w.alloc (.cells #[.int .i64 p.g, .int .i64 p.s] 94)) from ((Chg.refl _ _).alloc _))
  obtain ⟨z, hzz⟩ : ∃ z, z = s.fullE p := ⟨_, rfl⟩
  have HZ := Lib.hid hzz
  rw [← hzz] at hz ⊢
  have hz0 : (z == 0) = false := by simpa using hz
  clear h hz hzz
  go_enter Try.func33, Try.ntmps33
  go_wp2
  go_region_held3 (fun w' => w'.cell? ⟨w.heap.size, 0, none⟩ = some (.int .i64 p.g) ∧ w'.cell? ⟨w.heap.size, 1, none⟩ = some (.int .i64 p.s))
    (first | go_keep)
    (first
      | (go_at_call 55; refine (H1.out _ HW0.out.drew).mono ?_; rintro e w1 ⟨F1, rfl, hc, hF⟩; have HC1 := Lib.hid (((Chg.refl _ _).drew).then hc : Chg [] (w.alloc (.cells #[.int .i64 p.g, .int .i64 p.s] 94)) w1); have HF1 := Lib.hid hF; have HD1 := Lib.hid hc; obtain ⟨k1_0, k1_1⟩ := HK.out _ HC1.out; clear hc hF)
      | (go_at_call 56; refine (H2.out _ (HW0.out.then HC1.out)).mono ?_; rintro e w2 ⟨F2, rfl, hc, hF⟩; have HC2 := Lib.hid (HC1.out.then hc); have HF2 := Lib.hid hF; have HD2 := Lib.hid hc; obtain ⟨k2_0, k2_1⟩ := HK.out _ HC2.out; clear hc hF)
      | (go_at_call 57; refine (H3.out _ (HW0.out.then HC2.out)).mono ?_; rintro e w3 ⟨F3, rfl, hc, hF⟩; have HC3 := Lib.hid (HC2.out.then hc); have HF3 := Lib.hid hF; have HD3 := Lib.hid hc; obtain ⟨k3_0, k3_1⟩ := HK.out _ HC3.out; clear hc hF)
      | (go_at_call 54; refine (refuse [(1, F1, true), (9, F2, s.slot p), (10, F3, (s.f p).isSome)] (n := 3) rfl (by decide) rfl ⟨(HF1.out trivial).quiet (HD2.out.then HD3.out), fun b0 => ⟨(HF2.out trivial).quiet HD3.out, fun b1 => ⟨HF3.out b1, fun b2 => trivial⟩⟩⟩).mono ?_; rintro e w4 ⟨he, hc⟩; replace he := he.trans (show _ = Ending.returned (.int .i64 z) by rw [HZ.out]; rfl); subst he; have HC4 := Lib.hid (HC3.out.then hc); obtain ⟨k4_0, k4_1⟩ := HK.out _ HC4.out; clear hc))
  all_goals
    go_wp2
    go_ret
    exact ⟨rfl, HW0.out.then HC4.out⟩
set_option maxHeartbeats 3200000 in
set_option maxRecDepth 100000 in
theorem revoke_ok (h : SpAt w a S s) {p : Pt} {n : Nat} (hz : s.slot p = true) (hf : s.f p = some n) {l : List Nat} (hl : Pre s.t (s.t.kids n) l) : Calls Try.prog 21 #[ptr a, .int .i64 p.g, .int .i64 p.s] w fun e w' => e = .returned (.tuple #[.int .i64 (l.length : Nat), .int .i64 0]) ∧ STurns a S (s.prune n l) w w' := by
  have H1 := Lib.hid (fun W (hc : Chg [] w W) => there_any (h.quiet hc).non)
  have H2 := Lib.hid (fun W (hc : Chg [] w W) => whas_any (h.quiet hc) p)
  have H3 := Lib.hid (fun W (hc : Chg [] w W) => wfilled_any (h.quiet hc) p)
  have HK := Lib.hid (show ∀ W, Chg [] (w.alloc (.cells #[.int .i64 p.g, .int .i64 p.s] 94)) W → W.cell? ⟨w.heap.size, 0, none⟩ = some (.int .i64 p.g) ∧ W.cell? ⟨w.heap.size, 1, none⟩ = some (.int .i64 p.s) from fun W hc => by
    have r0 := (((by have := Blk.new w 94 #[.int .i64 p.g, .int .i64 p.s]; simpa using this : Blk (w.alloc (.cells #[.int .i64 p.g, .int .i64 p.s] 94)) (w.heap.size) 94 #[.int .i64 p.g, .int .i64 p.s])).quiet hc).two
    exact ⟨r0.1, r0.2⟩)
  have HW0 := Lib.hid (show Chg [] w (w.alloc (.cells #[.int .i64 p.g, .int .i64 p.s] 94)) from ((Chg.refl _ _).alloc _))
  have HZ := Lib.hid (show s.fullE p = 0 by unfold Sp.fullE; rw [hz, hf]; rfl)
  obtain ⟨ht, bm, g, cH, i0, i1, hpl⟩ := h.place hz hf
  have HPL := Lib.hid hpl
  have hth := (h.wf.back p n hf).1
  have HD := Lib.hid (h.pruned hth hl (hpl w (Chg.refl _ _)).1)
  clear h hz hf hpl hth hl
  go_enter Try.func21, Try.ntmps21
  go_wp2
  go_region_held3 (fun w' => w'.cell? ⟨w.heap.size, 0, none⟩ = some (.int .i64 p.g) ∧ w'.cell? ⟨w.heap.size, 1, none⟩ = some (.int .i64 p.s))
    (first | go_keep)
    (first
      | (go_at_call 55; refine (H1.out _ HW0.out.drew).mono ?_; rintro e w1 ⟨F1, rfl, hc, hF⟩; have HC1 := Lib.hid (((Chg.refl _ _).drew).then hc : Chg [] (w.alloc (.cells #[.int .i64 p.g, .int .i64 p.s] 94)) w1); have HF1 := Lib.hid hF; have HD1 := Lib.hid hc; obtain ⟨k1_0, k1_1⟩ := HK.out _ HC1.out; clear hc hF)
      | (go_at_call 56; refine (H2.out _ (HW0.out.then HC1.out)).mono ?_; rintro e w2 ⟨F2, rfl, hc, hF⟩; have HC2 := Lib.hid (HC1.out.then hc); have HF2 := Lib.hid hF; have HD2 := Lib.hid hc; obtain ⟨k2_0, k2_1⟩ := HK.out _ HC2.out; clear hc hF)
      | (go_at_call 57; refine (H3.out _ (HW0.out.then HC2.out)).mono ?_; rintro e w3 ⟨F3, rfl, hc, hF⟩; have HC3 := Lib.hid (HC2.out.then hc); have HF3 := Lib.hid hF; have HD3 := Lib.hid hc; obtain ⟨k3_0, k3_1⟩ := HK.out _ HC3.out; clear hc hF)
      | (go_at_call 54; refine (refuse [(1, F1, true), (9, F2, s.slot p), (10, F3, (s.f p).isSome)] (n := 3) rfl (by decide) rfl ⟨(HF1.out trivial).quiet (HD2.out.then HD3.out), fun b0 => ⟨(HF2.out trivial).quiet HD3.out, fun b1 => ⟨HF3.out b1, fun b2 => trivial⟩⟩⟩).mono ?_; rintro e w4 ⟨he, hc⟩; replace he := he.trans (show _ = Ending.returned (.int .i64 0) by rw [← HZ.out]; rfl); subst he; have HC4 := Lib.hid (HC3.out.then hc); obtain ⟨k4_0, k4_1⟩ := HK.out _ HC4.out; clear hc))
  all_goals
    have hcw := HW0.out.then HC4.out
    obtain ⟨c2, c3, c4, la, lg, hlk, g2, g3, g4, g5⟩ := HPL.out _ hcw.drew
    have HDD := Lib.hid (HD.out _ hcw.drew)
    clear hcw
    go_wp2
    go_region_with (go_at_call 61; refine HDD.out.mono ?_; rintro e wy ⟨A, cc, rfl, hlv⟩; have HLV := Lib.hid hlv; clear hlv)
    all_goals
      go_wp2_with (go_at_call 62; refine HLV.out.mono ?_; rintro e wz ⟨rfl, hT⟩; have HT := Lib.hid hT; clear hT)
      go_ret2
      exact ⟨rfl, HT.out⟩
set_option maxHeartbeats 3200000 in
set_option maxRecDepth 100000 in
theorem revoke_no (h : SpAt w a S s) {p : Pt} (hz : s.fullE p ≠ 0) : Calls Try.prog 21 #[ptr a, .int .i64 p.g, .int .i64 p.s] w fun e w' => e = .returned (.tuple #[.int .i64 0, .int .i64 (s.fullE p)]) ∧ Chg [] w w' := by
  have H1 := Lib.hid (fun W (hc : Chg [] w W) => there_any (h.quiet hc).non)
  have H2 := Lib.hid (fun W (hc : Chg [] w W) => whas_any (h.quiet hc) p)
  have H3 := Lib.hid (fun W (hc : Chg [] w W) => wfilled_any (h.quiet hc) p)
  have HK := Lib.hid (show ∀ W, Chg [] (w.alloc (.cells #[.int .i64 p.g, .int .i64 p.s] 94)) W → W.cell? ⟨w.heap.size, 0, none⟩ = some (.int .i64 p.g) ∧ W.cell? ⟨w.heap.size, 1, none⟩ = some (.int .i64 p.s) from fun W hc => by
    have r0 := (((by have := Blk.new w 94 #[.int .i64 p.g, .int .i64 p.s]; simpa using this : Blk (w.alloc (.cells #[.int .i64 p.g, .int .i64 p.s] 94)) (w.heap.size) 94 #[.int .i64 p.g, .int .i64 p.s])).quiet hc).two
    exact ⟨r0.1, r0.2⟩)
  have HW0 := Lib.hid (show Chg [] w (w.alloc (.cells #[.int .i64 p.g, .int .i64 p.s] 94)) from ((Chg.refl _ _).alloc _))
  obtain ⟨z, hzz⟩ : ∃ z, z = s.fullE p := ⟨_, rfl⟩
  have HZ := Lib.hid hzz
  rw [← hzz] at hz ⊢
  have hz0 : (z != 0) = true := by simpa using hz
  clear h hz hzz
  go_enter Try.func21, Try.ntmps21
  go_wp2
  go_region_held3 (fun w' => w'.cell? ⟨w.heap.size, 0, none⟩ = some (.int .i64 p.g) ∧ w'.cell? ⟨w.heap.size, 1, none⟩ = some (.int .i64 p.s))
    (first | go_keep)
    (first
      | (go_at_call 55; refine (H1.out _ HW0.out.drew).mono ?_; rintro e w1 ⟨F1, rfl, hc, hF⟩; have HC1 := Lib.hid (((Chg.refl _ _).drew).then hc : Chg [] (w.alloc (.cells #[.int .i64 p.g, .int .i64 p.s] 94)) w1); have HF1 := Lib.hid hF; have HD1 := Lib.hid hc; obtain ⟨k1_0, k1_1⟩ := HK.out _ HC1.out; clear hc hF)
      | (go_at_call 56; refine (H2.out _ (HW0.out.then HC1.out)).mono ?_; rintro e w2 ⟨F2, rfl, hc, hF⟩; have HC2 := Lib.hid (HC1.out.then hc); have HF2 := Lib.hid hF; have HD2 := Lib.hid hc; obtain ⟨k2_0, k2_1⟩ := HK.out _ HC2.out; clear hc hF)
      | (go_at_call 57; refine (H3.out _ (HW0.out.then HC2.out)).mono ?_; rintro e w3 ⟨F3, rfl, hc, hF⟩; have HC3 := Lib.hid (HC2.out.then hc); have HF3 := Lib.hid hF; have HD3 := Lib.hid hc; obtain ⟨k3_0, k3_1⟩ := HK.out _ HC3.out; clear hc hF)
      | (go_at_call 54; refine (refuse [(1, F1, true), (9, F2, s.slot p), (10, F3, (s.f p).isSome)] (n := 3) rfl (by decide) rfl ⟨(HF1.out trivial).quiet (HD2.out.then HD3.out), fun b0 => ⟨(HF2.out trivial).quiet HD3.out, fun b1 => ⟨HF3.out b1, fun b2 => trivial⟩⟩⟩).mono ?_; rintro e w4 ⟨he, hc⟩; replace he := he.trans (show _ = Ending.returned (.int .i64 z) by rw [HZ.out]; rfl); subst he; have HC4 := Lib.hid (HC3.out.then hc); obtain ⟨k4_0, k4_1⟩ := HK.out _ HC4.out; clear hc))
  all_goals
    go_wp2
    go_ret2
    exact ⟨rfl, HW0.out.then HC4.out⟩
end
end Go.Proofs
end
section
namespace Go.Proofs
open Go.RowKit
set_option linter.unusedVariables false
set_option linter.unusedSimpArgs false
section
variable {w : World} {a : Nat} {S : List Nat} {s : Sp}
theorem Rd.of_blk {V : World} {b n : Nat} (h : Blk V b 3 #[.int .i64 (n : Nat)]) : Rd V (.slice (some ⟨b, 0, none⟩) [n].length 1) (iN [n]) :=
  ⟨_, 1, rfl, by simp, by unfold maxLen; omega, fun h => (by cases h), fun a ha => by
    cases ha
    refine ⟨_, 0, _, rfl, h, by simp, fun j z hj => ?_⟩
    match j, hj with
    | 0, hj => simp [iN] at hj; simp [hj]⟩
/-- One leaves, and stands elsewhere. -/
theorem SpAt.moved (h : SpAt w a S s) {p q : Pt} {n : Nat} (hf : s.f p = some n) (hs : s.slot q = true) (hq : s.f q = none) : ∀ W b, Chg [] w W → Blk W b 3 #[.int .i64 (n : Nat)] → w.heap.size ≤ b → Calls Try.prog 62 #[ptr a, .slice (some ⟨b, 0, none⟩) 1 1] W fun e w1 => e = .returned (.tuple #[]) ∧ Chg S W w1 ∧
    Calls Try.prog 67 #[ptr a, .int .i64 (n : Nat), q.val, (s.hd n).cap.val] w1 fun e w2 => e = .returned (.tuple #[]) ∧ STurns a S (s.move n q) w w2 := by
  intro W b hW hB hb
  have hlt := h.lt
  obtain ⟨c, hR, hS, hWF⟩ := h
  have hn := (hWF.back p n hf).1
  have hnl := hWF.lt hS.wf hn
  have h512 : s.H.length ≤ 512 := by rw [hWF.len]; exact hWF.size.2
  have hlv := leave_raw (hR.quiet hW) h512 (fun k hk => by
    simp at hk
    subst hk
    exact Sp.slot_ok hWF.gs.2 hWF.slots.2 (hWF.at_ _ hn).1) (Rd.of_blk hB) (fun k hk hkS => by simp [foot_some] at hk; subst hk; have := hlt _ hkS; omega) (fun k hk => by simp at hk; subst hk; exact hnl) (by simp)
  have hlen := Fo.len_drop hS.wf hn
  have hle : s.t.len ≤ s.t.size := by have := hS.wf.len; omega
  have hsz := hWF.size.2
  refine hlv.mono fun e w1 ⟨h1, h2, h3⟩ => ⟨h1, h3, ?_⟩
  have hfn := (hWF.at_ n hn).2.1
  have e1 : Lv.all ⟨s.t.len, s.f, s.H⟩ [n] = ⟨s.t.len - 1, del s.f (s.hd n).p, s.H.set n hd0⟩ := by
    show Lv.step _ n = _
    unfold Lv.step
    show (⟨s.t.len - (if (s.f (s.hd n).p).isSome then 1 else 0), _, _⟩ : Lv) = _
    rw [hfn]
    rfl
  rw [e1] at h2
  have hdq : del s.f (s.hd n).p q = none := by unfold del; split; rfl; exact hq
  refine (stand_raw h2 (n := n) (by simpa using hnl) (by simpa using h512) (by show s.t.len - 1 ≤ 100000; omega) (Sp.slot_ok hWF.gs.2 hWF.slots.2 hs) (s.hd n).cap).mono fun e w2 ⟨k1, k2, k3⟩ => ⟨k1, S, ⟨c, ?_, hS, hWF.move hS.wf hn hs hq⟩, fun k hk => .inl hk, ((Chg.any hW).trans h3 (fun k hk => .inl hk)).trans k3 (fun k hk => .inl hk)⟩
  simp only at k2
  simp only [hdq, Option.isSome_none, Bool.false_eq_true, if_false, List.set_set] at k2
  rw [show s.t.len - 1 + 1 = s.t.len by omega] at k2
  exact k2
set_option maxHeartbeats 3200000 in
set_option maxRecDepth 100000 in
theorem move_ok (h : SpAt w a S s) {p q : Pt} {n : Nat} (hz : s.slot p = true) (hf : s.f p = some n) (hs : s.slot q = true) (hq : s.f q = none) (hpq : q.g = p.g) : Calls Try.prog 25 #[ptr a, .int .i64 p.g, .int .i64 p.s, .int .i64 q.s] w fun e w' => e = .returned (.int .i64 0) ∧ STurns a S (s.move n q) w w' := by
  obtain ⟨qg, qs⟩ := q
  simp only at hpq
  subst hpq
  have H1 := Lib.hid (fun W (hc : Chg [] w W) => there_any (h.quiet hc).non)
  have H2 := Lib.hid (fun W (hc : Chg [] w W) => whas_any (h.quiet hc) p)
  have H3 := Lib.hid (fun W (hc : Chg [] w W) => wfilled_any (h.quiet hc) p)
  have H4 := Lib.hid (fun W (hc : Chg [] w W) => whas_any (h.quiet hc) (⟨p.g, qs⟩ : Pt))
  have H5 := Lib.hid (fun W (hc : Chg [] w W) => wempty_any (h.quiet hc) (⟨p.g, qs⟩ : Pt))
  have HK := Lib.hid (show ∀ W, Chg [] ((w.alloc (.cells #[.int .i64 p.g, .int .i64 p.s] 94)).alloc (.cells #[.int .i64 p.g, .int .i64 qs] 94)) W → W.cell? ⟨w.heap.size, 0, none⟩ = some (.int .i64 p.g) ∧ W.cell? ⟨w.heap.size, 1, none⟩ = some (.int .i64 p.s) ∧ W.cell? ⟨w.heap.size + 1, 0, none⟩ = some (.int .i64 p.g) ∧ W.cell? ⟨w.heap.size + 1, 1, none⟩ = some (.int .i64 qs) from fun W hc => by
    have r0 := Blk.two (p := p) ((((by have := Blk.new w 94 #[.int .i64 p.g, .int .i64 p.s]; simpa using this : Blk (w.alloc (.cells #[.int .i64 p.g, .int .i64 p.s] 94)) (w.heap.size) 94 #[.int .i64 p.g, .int .i64 p.s]).alloc _)).quiet hc)
    have r1 := Blk.two (p := (⟨p.g, qs⟩ : Pt)) (((by have := Blk.new (w.alloc (.cells #[.int .i64 p.g, .int .i64 p.s] 94)) 94 #[.int .i64 p.g, .int .i64 qs]; simpa using this : Blk ((w.alloc (.cells #[.int .i64 p.g, .int .i64 p.s] 94)).alloc (.cells #[.int .i64 p.g, .int .i64 qs] 94)) (w.heap.size + 1) 94 #[.int .i64 p.g, .int .i64 qs])).quiet hc)
    exact ⟨r0.1, r0.2, r1.1, r1.2⟩)
  obtain ⟨k0_0, k0_1, k0_2, k0_3⟩ := HK.out _ (Chg.refl _ _).drew
  have HW0 := Lib.hid (show Chg [] w ((w.alloc (.cells #[.int .i64 p.g, .int .i64 p.s] 94)).alloc (.cells #[.int .i64 p.g, .int .i64 qs] 94)) from (((Chg.refl _ _).alloc _).alloc _))
  have HZ := Lib.hid (show s.moveE p ⟨p.g, qs⟩ = 0 by unfold Sp.moveE; rw [hz, hf, hs, hq]; rfl)
  obtain ⟨ht, bm, g, cH, i0, i1, hpl⟩ := h.place hz hf
  have HPL := Lib.hid hpl
  have HMV := Lib.hid (h.moved hf hs hq)
  have HSL := Lib.hid h.lt
  have HB2 := Lib.hid (show Blk ((w.alloc (.cells #[.int .i64 p.g, .int .i64 p.s] 94)).alloc (.cells #[.int .i64 p.g, .int .i64 qs] 94)) (w.heap.size + 1) 94 #[.int .i64 p.g, .int .i64 qs] from by have := Blk.new (w.alloc (.cells #[.int .i64 p.g, .int .i64 p.s] 94)) 94 #[.int .i64 p.g, .int .i64 qs]; simpa using this)
  obtain ⟨m, hm⟩ : ∃ m, m = s.H.length := ⟨_, rfl⟩
  obtain ⟨⟨ck, ci, cg, cr⟩, hcp⟩ : ∃ cp, cp = (s.hd n).cap := ⟨_, rfl⟩
  rw [← hm] at i1 HPL
  rw [← hcp] at HPL HMV
  clear h hz hf hpl hm hcp hs hq
  go_enter Try.func25, Try.ntmps25
  have tok2 : True := trivial
  go_wp2
  go_region_held3 (fun w' => w'.cell? ⟨w.heap.size, 0, none⟩ = some (.int .i64 p.g) ∧ w'.cell? ⟨w.heap.size, 1, none⟩ = some (.int .i64 p.s) ∧ w'.cell? ⟨w.heap.size + 1, 0, none⟩ = some (.int .i64 p.g) ∧ w'.cell? ⟨w.heap.size + 1, 1, none⟩ = some (.int .i64 qs))
    (first | go_keep)
    (first
      | (go_at_call 55; refine (H1.out _ HW0.out.drew).mono ?_; rintro e w1 ⟨F1, rfl, hc, hF⟩; have HC1 := Lib.hid (((Chg.refl _ _).drew).then hc : Chg [] ((w.alloc (.cells #[.int .i64 p.g, .int .i64 p.s] 94)).alloc (.cells #[.int .i64 p.g, .int .i64 qs] 94)) w1); have HF1 := Lib.hid hF; have HD1 := Lib.hid hc; obtain ⟨k1_0, k1_1, k1_2, k1_3⟩ := HK.out _ HC1.out; clear hc hF)
      | (go_at_call 56; have _t := tok2; refine (H2.out _ (HW0.out.then HC1.out)).mono ?_; rintro e w2 ⟨F2, rfl, hc, hF⟩; have HC2 := Lib.hid (HC1.out.then hc); have HF2 := Lib.hid hF; have HD2 := Lib.hid hc; obtain ⟨k2_0, k2_1, k2_2, k2_3⟩ := HK.out _ HC2.out; clear hc hF tok2)
      | (go_at_call 57; refine (H3.out _ (HW0.out.then HC2.out)).mono ?_; rintro e w3 ⟨F3, rfl, hc, hF⟩; have HC3 := Lib.hid (HC2.out.then hc); have HF3 := Lib.hid hF; have HD3 := Lib.hid hc; obtain ⟨k3_0, k3_1, k3_2, k3_3⟩ := HK.out _ HC3.out; clear hc hF)
      | (go_at_call 56; refine (H4.out _ (HW0.out.then HC3.out)).mono ?_; rintro e w4 ⟨F4, rfl, hc, hF⟩; have HC4 := Lib.hid (HC3.out.then hc); have HF4 := Lib.hid hF; have HD4 := Lib.hid hc; obtain ⟨k4_0, k4_1, k4_2, k4_3⟩ := HK.out _ HC4.out; clear hc hF)
      | (go_at_call 66; refine (H5.out _ (HW0.out.then HC4.out)).mono ?_; rintro e w5 ⟨F5, rfl, hc, hF⟩; have HC5 := Lib.hid (HC4.out.then hc); have HF5 := Lib.hid hF; have HD5 := Lib.hid hc; obtain ⟨k5_0, k5_1, k5_2, k5_3⟩ := HK.out _ HC5.out; clear hc hF)
      | (go_at_call 54; refine (refuse [(1, F1, true), (9, F2, s.slot p), (10, F3, (s.f p).isSome), (9, F4, s.slot (⟨p.g, qs⟩ : Pt)), (14, F5, !(s.f (⟨p.g, qs⟩ : Pt)).isSome)] (n := 5) rfl (by decide) rfl ⟨(HF1.out trivial).quiet (((HD2.out.then HD3.out).then HD4.out).then HD5.out), fun b0 => ⟨(HF2.out trivial).quiet ((HD3.out.then HD4.out).then HD5.out), fun b1 => ⟨(HF3.out b1).quiet (HD4.out.then HD5.out), fun b2 => ⟨(HF4.out trivial).quiet HD5.out, fun b3 => ⟨HF5.out b3, fun b4 => trivial⟩⟩⟩⟩⟩).mono ?_; rintro e w6 ⟨he, hc⟩; replace he := he.trans (show _ = Ending.returned (.int .i64 0) by rw [← HZ.out]; rfl); subst he; have HC6 := Lib.hid (HC5.out.then hc); obtain ⟨k6_0, k6_1, k6_2, k6_3⟩ := HK.out _ HC6.out; clear hc))
  all_goals
    have hcw := HW0.out.then HC6.out
    obtain ⟨c2, c3, c4, la, lg, hlk, g2, g3, g4, g5⟩ := HPL.out _ hcw.drew
    have HQ := Lib.hid (show Chg [] w6 ((w6.alloc (.cells #[.int .i64 ck, .int .i64 ci, .int .u64 cg, .int .u8 (cr : Nat)] 39)).alloc (.cells #[.int .i64 (n : Nat)] 3)).drew from (((Chg.refl _ _).alloc _).alloc _).drew)
    have HM2 := Lib.hid (HMV.out _ (w6.heap.size + 1) (hcw.then HQ.out) (by have := (Blk.new (w6.alloc (.cells #[.int .i64 ck, .int .i64 ci, .int .u64 cg, .int .u8 (cr : Nat)] 39)) 3 #[.int .i64 (n : Nat)]).drew; simpa using this) (by have := hcw.size; omega))
    have HBC := Lib.hid (show Blk ((w6.alloc (.cells #[.int .i64 ck, .int .i64 ci, .int .u64 cg, .int .u8 (cr : Nat)] 39)).alloc (.cells #[.int .i64 (n : Nat)] 3)).drew w6.heap.size 39 #[.int .i64 ck, .int .i64 ci, .int .u64 cg, .int .u8 (cr : Nat)] from ((Blk.new w6 39 _).alloc _).drew)
    have HB3 := Lib.hid (HB2.out.quiet HC6.out)
    have HSZ := Lib.hid (show w.heap.size + 1 < w6.heap.size from HB3.out.lt)
    clear hcw
    go_wp2
    go_region
    go_wp2_with (first
      | (go_at_call 62; refine HM2.out.mono ?_; rintro e wy ⟨rfl, hcy, hst⟩; have hb1 := (HB3.out.quiet HQ.out).chg hcy (fun hk => by have := HSL.out _ hk; omega); have hb2 := HBC.out.chg hcy (fun hk => by have h1 := HSL.out _ hk; have h2 := HSZ.out; omega); have x0 := hb1.cell 0; have x1 := hb1.cell 1; have lb1 := hb1.lt; have y0 := hb2.cell 0; have y1 := hb2.cell 1; have y2 := hb2.cell 2; have y3 := hb2.cell 3; have lb2 := hb2.lt; simp only [List.getElem?_toArray, List.getElem?_cons_succ, List.getElem?_cons_zero] at x0 x1 y0 y1 y2 y3; have HST := Lib.hid hst; clear hst hcy hb1 hb2)
      | (go_at_call 67; refine HST.out.mono ?_; rintro e wz ⟨rfl, hT⟩; have HT := Lib.hid hT; clear hT))
    go_ret
    exact ⟨rfl, HT.out⟩
set_option maxHeartbeats 3200000 in
set_option maxRecDepth 100000 in
theorem move_no (h : SpAt w a S s) {p q : Pt} (hz : s.moveE p q ≠ 0) (hpq : q.g = p.g) : Calls Try.prog 25 #[ptr a, .int .i64 p.g, .int .i64 p.s, .int .i64 q.s] w fun e w' => e = .returned (.int .i64 (s.moveE p q)) ∧ Chg [] w w' := by
  obtain ⟨qg, qs⟩ := q
  simp only at hpq
  subst hpq
  have H1 := Lib.hid (fun W (hc : Chg [] w W) => there_any (h.quiet hc).non)
  have H2 := Lib.hid (fun W (hc : Chg [] w W) => whas_any (h.quiet hc) p)
  have H3 := Lib.hid (fun W (hc : Chg [] w W) => wfilled_any (h.quiet hc) p)
  have H4 := Lib.hid (fun W (hc : Chg [] w W) => whas_any (h.quiet hc) (⟨p.g, qs⟩ : Pt))
  have H5 := Lib.hid (fun W (hc : Chg [] w W) => wempty_any (h.quiet hc) (⟨p.g, qs⟩ : Pt))
  have HK := Lib.hid (show ∀ W, Chg [] ((w.alloc (.cells #[.int .i64 p.g, .int .i64 p.s] 94)).alloc (.cells #[.int .i64 p.g, .int .i64 qs] 94)) W → W.cell? ⟨w.heap.size, 0, none⟩ = some (.int .i64 p.g) ∧ W.cell? ⟨w.heap.size, 1, none⟩ = some (.int .i64 p.s) ∧ W.cell? ⟨w.heap.size + 1, 0, none⟩ = some (.int .i64 p.g) ∧ W.cell? ⟨w.heap.size + 1, 1, none⟩ = some (.int .i64 qs) from fun W hc => by
    have r0 := Blk.two (p := p) ((((by have := Blk.new w 94 #[.int .i64 p.g, .int .i64 p.s]; simpa using this : Blk (w.alloc (.cells #[.int .i64 p.g, .int .i64 p.s] 94)) (w.heap.size) 94 #[.int .i64 p.g, .int .i64 p.s]).alloc _)).quiet hc)
    have r1 := Blk.two (p := (⟨p.g, qs⟩ : Pt)) (((by have := Blk.new (w.alloc (.cells #[.int .i64 p.g, .int .i64 p.s] 94)) 94 #[.int .i64 p.g, .int .i64 qs]; simpa using this : Blk ((w.alloc (.cells #[.int .i64 p.g, .int .i64 p.s] 94)).alloc (.cells #[.int .i64 p.g, .int .i64 qs] 94)) (w.heap.size + 1) 94 #[.int .i64 p.g, .int .i64 qs])).quiet hc)
    exact ⟨r0.1, r0.2, r1.1, r1.2⟩)
  obtain ⟨k0_0, k0_1, k0_2, k0_3⟩ := HK.out _ (Chg.refl _ _).drew
  have HW0 := Lib.hid (show Chg [] w ((w.alloc (.cells #[.int .i64 p.g, .int .i64 p.s] 94)).alloc (.cells #[.int .i64 p.g, .int .i64 qs] 94)) from (((Chg.refl _ _).alloc _).alloc _))
  obtain ⟨z, hzz⟩ : ∃ z, z = s.moveE p ⟨p.g, qs⟩ := ⟨_, rfl⟩
  have HZ := Lib.hid hzz
  rw [← hzz] at hz ⊢
  have hz0 : (z == 0) = false := by simpa using hz
  clear h hz hzz
  go_enter Try.func25, Try.ntmps25
  have tok2 : True := trivial
  go_wp2
  go_region_held3 (fun w' => w'.cell? ⟨w.heap.size, 0, none⟩ = some (.int .i64 p.g) ∧ w'.cell? ⟨w.heap.size, 1, none⟩ = some (.int .i64 p.s) ∧ w'.cell? ⟨w.heap.size + 1, 0, none⟩ = some (.int .i64 p.g) ∧ w'.cell? ⟨w.heap.size + 1, 1, none⟩ = some (.int .i64 qs))
    (first | go_keep)
    (first
      | (go_at_call 55; refine (H1.out _ HW0.out.drew).mono ?_; rintro e w1 ⟨F1, rfl, hc, hF⟩; have HC1 := Lib.hid (((Chg.refl _ _).drew).then hc : Chg [] ((w.alloc (.cells #[.int .i64 p.g, .int .i64 p.s] 94)).alloc (.cells #[.int .i64 p.g, .int .i64 qs] 94)) w1); have HF1 := Lib.hid hF; have HD1 := Lib.hid hc; obtain ⟨k1_0, k1_1, k1_2, k1_3⟩ := HK.out _ HC1.out; clear hc hF)
      | (go_at_call 56; have _t := tok2; refine (H2.out _ (HW0.out.then HC1.out)).mono ?_; rintro e w2 ⟨F2, rfl, hc, hF⟩; have HC2 := Lib.hid (HC1.out.then hc); have HF2 := Lib.hid hF; have HD2 := Lib.hid hc; obtain ⟨k2_0, k2_1, k2_2, k2_3⟩ := HK.out _ HC2.out; clear hc hF tok2)
      | (go_at_call 57; refine (H3.out _ (HW0.out.then HC2.out)).mono ?_; rintro e w3 ⟨F3, rfl, hc, hF⟩; have HC3 := Lib.hid (HC2.out.then hc); have HF3 := Lib.hid hF; have HD3 := Lib.hid hc; obtain ⟨k3_0, k3_1, k3_2, k3_3⟩ := HK.out _ HC3.out; clear hc hF)
      | (go_at_call 56; refine (H4.out _ (HW0.out.then HC3.out)).mono ?_; rintro e w4 ⟨F4, rfl, hc, hF⟩; have HC4 := Lib.hid (HC3.out.then hc); have HF4 := Lib.hid hF; have HD4 := Lib.hid hc; obtain ⟨k4_0, k4_1, k4_2, k4_3⟩ := HK.out _ HC4.out; clear hc hF)
      | (go_at_call 66; refine (H5.out _ (HW0.out.then HC4.out)).mono ?_; rintro e w5 ⟨F5, rfl, hc, hF⟩; have HC5 := Lib.hid (HC4.out.then hc); have HF5 := Lib.hid hF; have HD5 := Lib.hid hc; obtain ⟨k5_0, k5_1, k5_2, k5_3⟩ := HK.out _ HC5.out; clear hc hF)
      | (go_at_call 54; refine (refuse [(1, F1, true), (9, F2, s.slot p), (10, F3, (s.f p).isSome), (9, F4, s.slot (⟨p.g, qs⟩ : Pt)), (14, F5, !(s.f (⟨p.g, qs⟩ : Pt)).isSome)] (n := 5) rfl (by decide) rfl ⟨(HF1.out trivial).quiet (((HD2.out.then HD3.out).then HD4.out).then HD5.out), fun b0 => ⟨(HF2.out trivial).quiet ((HD3.out.then HD4.out).then HD5.out), fun b1 => ⟨(HF3.out b1).quiet (HD4.out.then HD5.out), fun b2 => ⟨(HF4.out trivial).quiet HD5.out, fun b3 => ⟨HF5.out b3, fun b4 => trivial⟩⟩⟩⟩⟩).mono ?_; rintro e w6 ⟨he, hc⟩; replace he := he.trans (show _ = Ending.returned (.int .i64 z) by rw [HZ.out]; rfl); subst he; have HC6 := Lib.hid (HC5.out.then hc); obtain ⟨k6_0, k6_1, k6_2, k6_3⟩ := HK.out _ HC6.out; clear hc))
  all_goals
    go_wp2
    go_ret
    exact ⟨rfl, HW0.out.then HC6.out⟩
end
end Go.Proofs
end
section
namespace Go.Proofs
open Go.RowKit
set_option linter.unusedVariables false
set_option linter.unusedSimpArgs false

/-! ### What a goroutine holds, as it is told -/
structure Hl where
  slot : Int
  cap : Cp
  deriving DecidableEq
def Hl.cells (h : Hl) : List Value := [.int .i64 h.slot, .int .i64 h.cap.kind, .int .i64 h.cap.idx, .int .u64 h.cap.gen, .int .u8 h.cap.rts]
abbrev Hl.arr (h : Hl) : Array Value := #[.int .i64 h.slot, .int .i64 h.cap.kind, .int .i64 h.cap.idx, .int .u64 h.cap.gen, .int .u8 h.cap.rts]
def hlCells (l : List Hl) : List Value := l.flatMap Hl.cells
theorem hlCells_len (l : List Hl) : (hlCells l).length = l.length * 5 := flat_len (enc := Hl.cells) (s := 5) (fun _ => rfl) l
theorem hlCells_snoc (l : List Hl) (x : Hl) : hlCells (l ++ [x]) = hlCells l ++ x.cells := by unfold hlCells; simp
theorem hlCells_at (l : List Hl) (k : Nat) (d : Hl) (h : l[k]? = some d) : (hlCells l)[k * 5]? = some (.int .i64 d.slot) ∧ (hlCells l)[k * 5 + 1]? = some (.int .i64 d.cap.kind) ∧ (hlCells l)[k * 5 + 2]? = some (.int .i64 d.cap.idx) ∧ (hlCells l)[k * 5 + 3]? = some (.int .u64 d.cap.gen) ∧ (hlCells l)[k * 5 + 4]? = some (.int .u8 d.cap.rts) := by
  have e := fun j u => flat_at (enc := Hl.cells) (s := 5) (fun _ => rfl) (j := j) (u := u) h
  exact ⟨e 0 _ rfl, e 1 _ rfl, e 2 _ rfl, e 3 _ rfl, e 4 _ rfl⟩
theorem hl_info : (Try.prog.info? 49).map (fun i => (i.zero, i.size, i.bytes)) = some (some (.agg #[.int .i64 0, .int .i64 0, .int .i64 0, .int .u64 0, .int .u8 0]), 5, 40) := by kernel_rfl
/-- What is told stands in new blocks. -/
def FreshH (w w' : World) (v : Value) (l : List Hl) : Prop := Row w' 49 5 v l.length (hlCells l) ∧ (∀ k ∈ foot v, w.heap.size ≤ k) ∧ Chg [] w w'
theorem FreshH.later {w w1 w2 : World} {v : Value} {l : List Hl} (h : FreshH w w1 v l) (hc : Chg [] w1 w2) : FreshH w w2 v l := ⟨h.1.chg hc (fun _ _ h => by cases h), h.2.1, h.2.2.then hc⟩
theorem FreshH.nil {w w1 : World} (h : Chg [] w w1) : FreshH w w1 (.slice none 0 0) [] := ⟨Row.nil _ _ _, (fun k hk => by cases hk), h⟩
def NewH (w w' : World) (e : Ending) (l : List Hl) : Prop := ∃ A c, e = .returned (.slice A l.length c) ∧ FreshH w w' (.slice A l.length c) l
def Sp.held (s : Sp) (g : Int) (k : Nat) : List Hl := match s.f ⟨g, (k : Nat)⟩ with | some n => [⟨(k : Nat), (s.hd n).cap⟩] | none => []
/-- What is in the first k slots of a goroutine. -/
def Sp.capsTo (s : Sp) (g : Int) : Nat → List Hl
  | 0 => []
  | k + 1 => s.capsTo g k ++ s.held g k
def Sp.caps (s : Sp) (g : Int) : List Hl := s.capsTo g s.slots
theorem Sp.capsTo_len (s : Sp) (g : Int) (k : Nat) : (s.capsTo g k).length ≤ k := by
  induction k with
  | zero => exact Nat.le_refl _
  | succ k ih =>
    show (s.capsTo g k ++ s.held g k).length ≤ k + 1
    rw [List.length_append]
    have : (s.held g k).length ≤ 1 := by unfold Sp.held; split <;> simp
    omega
section
variable {w : World} {a : Nat} {S : List Nat} {s : Sp}
set_option maxHeartbeats 3200000 in
set_option maxRecDepth 100000 in
theorem caps_any (h : SpAt w a S s) {g : Int} (hg : I64 g) : Calls Try.prog 16 #[ptr a, .int .i64 g] w fun e w' => NewH w w' e (s.caps g) := by
  have HN := none_is h
  have HND := Lib.hid (fun W (hc : Chg [] w W) (k : Nat) (hk : k ≤ 1000) => node_any (h.quiet hc) (p := ⟨g, (k : Nat)⟩) ⟨hg, I64.nat (by omega)⟩)
  have hs32 := h.wf.slots.2
  have HPL := Lib.hid (fun (k : Nat) (hk : k < s.slots) (n : Nat) (hf : s.f ⟨g, (k : Nat)⟩ = some n) => h.place (h.wf.slot_of hf) hf)
  have HSLT := Lib.hid h.lt
  obtain ⟨i0, hi0, hz0, hz1, hz2⟩ := info_parts hl_info
  have HC1 := Lib.hid (show ∀ W, Chg [] w W → W.cell? ⟨a, 1, none⟩ = some (.int .i64 (s.slots : Nat)) ∧ a < W.heap.size from by
    obtain ⟨c, hR, _, _⟩ := h
    obtain ⟨ht, St, bm, A, cH, _, hh, _⟩ := hR.head
    exact fun W hc => ⟨(hh W hc).2.1, (hh W hc).2.2.2.2.2.1⟩)
  obtain ⟨M, hM⟩ : ∃ M, M = s.slots := ⟨_, rfl⟩
  have HM := Lib.hid hM
  rw [← hM] at HC1 HPL hs32
  obtain ⟨c1, la⟩ := HC1.out w (Chg.refl _ _)
  have HE := Lib.hid (show ∀ (k n : Nat), s.f ⟨g, (k : Nat)⟩ = some n → s.capsTo g (k + 1) = s.capsTo g k ++ [⟨(k : Nat), (s.hd n).cap⟩] from fun k n hf => by show s.capsTo g k ++ s.held g k = _; unfold Sp.held; rw [hf])
  have HE0 := Lib.hid (show ∀ (k : Nat), s.f ⟨g, (k : Nat)⟩ = none → s.capsTo g (k + 1) = s.capsTo g k from fun k hf => by show s.capsTo g k ++ s.held g k = _; unfold Sp.held; rw [hf]; simp)
  have HL := Lib.hid (s.capsTo_len g)
  have HFIN := Lib.hid (show s.caps g = s.capsTo g M by rw [hM]; rfl)
  clear h hM
  go_enter Try.func16, Try.ntmps16
  go_wp2_with (go_at_call 51; refine HN.mono ?_; rintro e w' ⟨rfl, rfl⟩)
  have HW := Lib.hid (Chg.refl [] w)
  go_loopg [5, 15] M (fun gh l i wr => ∃ (k : Nat) (A : Option Addr) (cc : Nat), k + gh = M ∧ i = .int .i64 k ∧ l = .slice A (s.capsTo g k).length cc ∧ Hid (FreshH w wr (.slice A (s.capsTo g k).length cc) (s.capsTo g k)))
  case atStart => exact ⟨0, none, 0, by omega, rfl, rfl, Lib.hid (FreshH.nil (Chg.refl _ _))⟩
  case round =>
    obtain ⟨k, A, cc, hk, rfl, rfl, HI⟩ := hrel
    by_cases hlt : k < M
    · have k1 : (k : Int) < (M : Int) := by omega
      have HNX := Lib.hid (HND.out _ HI.out.2.2 k (by omega))
      cases hf : s.f ⟨g, (k : Nat)⟩ with
      | none =>
        rw [hf] at HNX
        have HE1 := Lib.hid (HE0.out k hf)
        clear hf
        go_wp2_with (go_at_call 52; refine HNX.out.mono ?_; rintro e w' ⟨rfl, hc⟩; have HC := Lib.hid hc; clear hc)
        go_roundg (M - k - 1)
        case measure => omega
        case rel => exact ⟨k + 1, A, cc, by omega, by go_num, by rw [HE1.out], Lib.hid (by rw [HE1.out]; exact HI.out.later HC.out)⟩
      | some n =>
        rw [hf] at HNX
        have HE1 := Lib.hid (HE.out k n hf)
        obtain ⟨ht, bm, g6, cH, i0', i1', hpl⟩ := HPL.out k hlt n hf
        have HP := Lib.hid hpl
        obtain ⟨N, hN⟩ : ∃ N, N = s.H.length := ⟨_, rfl⟩
        rw [← hN] at i1' HP
        obtain ⟨⟨ck, ci, cg, cr⟩, hcp⟩ : ∃ cp, cp = (s.hd n).cap := ⟨_, rfl⟩
        rw [← hcp] at HP HE1
        obtain ⟨q, hq⟩ : ∃ q, q = (s.capsTo g k).length := ⟨_, rfl⟩
        have HQ := Lib.hid hq
        have hq32 : q ≤ 32 := by have := HL.out k; omega
        have HI2 := Lib.hid HI.out
        rw [← hq] at HI2
        clear hf hpl hN hcp
        rw [← hq]
        clear hq HI
        go_wp2_with (first
          | (go_at_call 52; refine HNX.out.mono ?_; rintro e w1 ⟨rfl, hc⟩; have HC := Lib.hid (HI2.out.later hc); have HROW := Lib.hid (show Row w1 49 5 (.slice A q cc) q (hlCells (s.capsTo g k)) from by have h9 := HC.out.1; rw [← HQ.out] at h9; exact h9); obtain ⟨_, _, c4, la1, lg1, _, g2, g3, g4, g5⟩ := HP.out w1 HC.out.2.2; clear hc)
          | (at_builtin; (refine wpList_append_row _ (by rfl) _ _ 44 (by rfl) 49 i0 _ 5 40 Try.underlying44 hi0 hz0 hz1 hz2 rfl (.slice A q cc) q (hlCells (s.capsTo g k)) (by rfl) (HROW.out.alloc _) ⟨w1.heap.size, 0, none⟩ 1 1 [.int .i64 (k : Nat), .int .i64 ck, .int .i64 ci, .int .u64 cg, .int .u8 (cr : Nat)] (by rfl) (by rfl) (World.news_of_block (cs := #[.int .i64 (k : Nat), .int .i64 ck, .int .i64 ci, .int .u64 cg, .int .u8 (cr : Nat)]) (t := 49) (fr := (0, 0)) (heap_alloc_new w1 _)) (by simp [Value.oneCell']) (by omega) (by unfold maxLen; omega) (by omega) (w1.heap.size + 1) (by simp) ?_; intro gg cap w2 hown hgrow hat hlt1; have HOWN := Lib.hid hown; have HG := Lib.hid hgrow; have HAT := Lib.hid hat; clear hown hgrow hat)))
        have hlen : (s.capsTo g (k + 1)).length = q + 1 := by rw [HE1.out, List.length_append, ← HQ.out]; rfl
        go_roundg (M - k - 1)
        case measure => omega
        case rel =>
          refine ⟨k + 1, _, cap, by omega, by go_num, by rw [hlen], Lib.hid ?_⟩
          rw [hlen]
          refine ⟨?_, fun b hb => ?_, ?_⟩
          · rw [hlen, HE1.out, hlCells_snoc]
            exact HOWN.out
          · rcases foot_grown HAT.out (S := foot (.slice A q cc)) (fun k hk => hk) b hb with h1 | h1
            · exact HC.out.2.1 b h1
            · have h2 := HC.out.2.2.size
              omega
          · refine (HC.out.2.2.alloc _).grown HG.out (fun b hb => ?_)
            exact .inr (HC.out.2.1 b (row_mem hb))
    · obtain rfl : k = M := by omega
      have HI2 := Lib.hid HI.out
      go_wp2
      go_ret
      have hh := HI2.out
      rw [HFIN.out]
      exact ⟨A, cc, rfl, hh⟩
theorem caps_no {v : Option Addr} (h : NoS w (.pointer v)) (g : Int) : Calls Try.prog 16 #[.pointer v, .int .i64 g] w fun e w' => NewH w w' e [] := by
  have HN := none_no h
  clear h
  go_enter Try.func16, Try.ntmps16
  go_wp2_with (go_at_call 51; refine HN.mono ?_; rintro e w' ⟨rfl, rfl⟩)
  go_ret
  exact ⟨none, 0, rfl, FreshH.nil (Chg.refl _ _)⟩
end
end Go.Proofs
end
section
namespace Go.Proofs
open Go.RowKit
set_option linter.unusedVariables false
set_option linter.unusedSimpArgs false

/-! ### The document's space in memory -/
structure On where
  id : Nat
  par : Nat
  g : Int
  s : Int
  cap : Cp
  deriving DecidableEq
def On.cells (x : On) : List Value := [.int .i64 (x.id : Nat), .int .i64 (x.par : Nat), .int .i64 x.g, .int .i64 x.s, .int .i64 x.cap.kind, .int .i64 x.cap.idx, .int .u64 x.cap.gen, .int .u8 x.cap.rts]
abbrev On.arr (x : On) : Array Value := #[.int .i64 (x.id : Nat), .int .i64 (x.par : Nat), .int .i64 x.g, .int .i64 x.s, .int .i64 x.cap.kind, .int .i64 x.cap.idx, .int .u64 x.cap.gen, .int .u8 x.cap.rts]
abbrev On.val (x : On) : Value := .agg x.arr
def onCells (l : List On) : List Value := l.flatMap On.cells
theorem onCells_len (l : List On) : (onCells l).length = l.length * 8 := flat_len (enc := On.cells) (s := 8) (fun _ => rfl) l
theorem onCells_snoc (l : List On) (x : On) : onCells (l ++ [x]) = onCells l ++ x.cells := by unfold onCells; simp
theorem onCells_at (l : List On) (k : Nat) (d : On) (h : l[k]? = some d) : (onCells l)[k * 8]? = some (.int .i64 (d.id : Nat)) ∧ (onCells l)[k * 8 + 1]? = some (.int .i64 (d.par : Nat)) ∧ (onCells l)[k * 8 + 2]? = some (.int .i64 d.g) ∧ (onCells l)[k * 8 + 3]? = some (.int .i64 d.s) ∧ (onCells l)[k * 8 + 4]? = some (.int .i64 d.cap.kind) ∧ (onCells l)[k * 8 + 5]? = some (.int .i64 d.cap.idx) ∧ (onCells l)[k * 8 + 6]? = some (.int .u64 d.cap.gen) ∧ (onCells l)[k * 8 + 7]? = some (.int .u8 d.cap.rts) := by
  have e := fun j u => flat_at (enc := On.cells) (s := 8) (fun _ => rfl) (j := j) (u := u) h
  exact ⟨e 0 _ rfl, e 1 _ rfl, e 2 _ rfl, e 3 _ rfl, e 4 _ rfl, e 5 _ rfl, e 6 _ rfl, e 7 _ rfl⟩
theorem on_set {l : List On} {k : Nat} {d d' : On} {j : Nat} {u : Value} (h : l[k]? = some d) (hy : d'.cells = d.cells.set j u) (hj : j < 8) : onCells (l.set k d') = (onCells l).set (k * 8 + j) u :=
  flat_set (enc := On.cells) (s := 8) (fun _ => rfl) l k d d' j u h hy hj
theorem onCells_one (l : List On) : ∀ u ∈ onCells l, u.oneCell' = true := by
  intro u hu
  unfold onCells at hu
  rw [List.mem_flatMap] at hu
  obtain ⟨s, _, hs⟩ := hu
  simp [On.cells] at hs
  rcases hs with rfl | rfl | rfl | rfl | rfl | rfl | rfl | rfl <;> rfl
theorem on_info : (Try.prog.info? 66).map (fun i => (i.zero, i.size, i.bytes)) = some (some (.agg #[.int .i64 0, .int .i64 0, .int .i64 0, .int .i64 0, .int .i64 0, .int .i64 0, .int .u64 0, .int .u8 0]), 8, 64) := by kernel_rfl
structure Rf where
  gs : Nat
  slots : Nat
  nodes : Nat
  L : List On
  came : Nat
/-- The document's space r lies in w at block b; S are its blocks. -/
def RefAt (w : World) (b : Nat) (S : List Nat) (r : Rf) : Prop :=
  ∃ V, Blk w b 64 #[.int .i64 (r.gs : Nat), .int .i64 (r.slots : Nat), .int .i64 (r.nodes : Nat), V, .int .i64 (r.came : Nat)] ∧ Row w 66 8 V r.L.length (onCells r.L) ∧ S = b :: foot V
section
variable {w w' : World} {b : Nat} {S : List Nat} {r : Rf}
theorem RefAt.lt (H : RefAt w b S r) : ∀ k ∈ S, k < w.heap.size := by
  obtain ⟨V, hB, hR, rfl⟩ := H
  intro k hk
  rcases List.mem_cons.1 hk with rfl | hk
  · exact hB.lt
  · exact hR.lt k hk
theorem RefAt.mem (H : RefAt w b S r) : b ∈ S := by obtain ⟨V, hB, hR, rfl⟩ := H; simp
theorem RefAt.chg {S' : List Nat} (H : RefAt w b S r) (hc : Chg S' w w') (hn : ∀ k ∈ S, k ∉ S') : RefAt w' b S r := by
  obtain ⟨V, hB, hR, rfl⟩ := H
  exact ⟨V, hB.chg hc (hn b (by simp)), hR.chg hc (fun k hk => hn k (by simp [hk])), rfl⟩
theorem RefAt.quiet (H : RefAt w b S r) (hc : Chg [] w w') : RefAt w' b S r := H.chg hc (fun _ _ h => by cases h)
theorem RefAt.blk (H : RefAt w b S r) : ∀ k ∈ S, (∃ cs, Blk w k 64 cs) ∨ (∃ cs, Blk w k 66 cs) := by
  obtain ⟨V, hB, hR, rfl⟩ := H
  intro k hk
  rcases List.mem_cons.1 hk with rfl | hk
  · exact .inl ⟨_, hB⟩
  · rcases hR.2 with ⟨rfl, _⟩ | ⟨g, cap, cur, rfl, hg, _⟩
    · cases hk
    · simp [foot_some] at hk; subst hk; exact .inr ⟨_, hg⟩
theorem RefAt.other (H : RefAt w b S r) {g : Nat} {t : TypeId} {cs : Array Value} (hg : Blk w g t cs) (h1 : t ≠ 64) (h2 : t ≠ 66) : g ∉ S := by
  intro hk
  rcases H.blk g hk with ⟨cs', hb⟩ | ⟨cs', hb⟩
  · exact Blk.ty hg hb h1 rfl
  · exact Blk.ty hg hb h2 rfl
/-- The head of it, and each one of its list, in every world in which nothing turned. -/
theorem RefAt.head (H : RefAt w b S r) : ∃ A cc, (A = none → cc = 0) ∧ r.L.length ≤ cc ∧ (∀ W, Chg [] w W → W.cell? ⟨b, 0, none⟩ = some (.int .i64 (r.gs : Nat)) ∧ W.cell? ⟨b, 1, none⟩ = some (.int .i64 (r.slots : Nat)) ∧ W.cell? ⟨b, 2, none⟩ = some (.int .i64 (r.nodes : Nat)) ∧ W.cell? ⟨b, 3, none⟩ = some (.slice A r.L.length cc) ∧ W.cell? ⟨b, 4, none⟩ = some (.int .i64 (r.came : Nat)) ∧ b < W.heap.size ∧ (∀ j, W.frozen? ⟨b, j, none⟩ = false) ∧ Row W 66 8 (.slice A r.L.length cc) r.L.length (onCells r.L)) ∧
    (∀ k x, r.L[k]? = some x → ∃ g, A = some ⟨g, 0, none⟩ ∧ g ≠ b ∧ ∀ W, Chg [] w W → g < W.heap.size ∧ (∀ j, W.frozen? ⟨g, j, none⟩ = false) ∧ W.cell? ⟨g, k * 8, none⟩ = some (.int .i64 (x.id : Nat)) ∧ W.cell? ⟨g, k * 8 + 1, none⟩ = some (.int .i64 (x.par : Nat)) ∧ W.cell? ⟨g, k * 8 + 2, none⟩ = some (.int .i64 x.g) ∧ W.cell? ⟨g, k * 8 + 3, none⟩ = some (.int .i64 x.s) ∧ W.cell? ⟨g, k * 8 + 4, none⟩ = some (.int .i64 x.cap.kind) ∧ W.cell? ⟨g, k * 8 + 5, none⟩ = some (.int .i64 x.cap.idx) ∧ W.cell? ⟨g, k * 8 + 6, none⟩ = some (.int .u64 x.cap.gen) ∧ W.cell? ⟨g, k * 8 + 7, none⟩ = some (.int .u8 x.cap.rts)) ∧ (∀ g, A = some ⟨g, 0, none⟩ → g ≠ b) := by
  obtain ⟨V, hB, hR, rfl⟩ := H
  obtain ⟨A, cc, rfl, hA⟩ := hR.val
  have hle : r.L.length ≤ cc := by
    rcases hR.2 with ⟨hv, h0⟩ | ⟨g, cap, cur, hv, _, hc, _⟩
    · omega
    · injection hv with _ _ hv; omega
  refine ⟨A, cc, fun h => (hA h).1, hle, fun W hc => ?_, fun k x hk => ?_, fun g hg => ?_⟩
  · have hb := hB.quiet hc
    exact ⟨hb.cell 0, hb.cell 1, hb.cell 2, hb.cell 3, hb.cell 4, hb.lt, hb.frozen, hR.chg hc (fun _ _ h => by cases h)⟩
  · obtain ⟨g, cap, hv, hf, _, hcell, hfz, hlt⟩ := hR.form (by have := (List.getElem?_eq_some_iff.1 hk).1; omega)
    injection hv with hv1 hv2 hv3
    subst hv1
    have hne : g ≠ b := fun e => by have := hR.ty hB (by decide); exact this (by simp [foot_some, e])
    refine ⟨g, rfl, hne, fun W hc => ?_⟩
    have e : ∀ o, W.cell? ⟨g, o, none⟩ = w.cell? ⟨g, o, none⟩ := fun o => hc.cell (p := ⟨g, o, none⟩) hlt (by simp)
    obtain ⟨c0, c1, c2, c3, c4, c5, c6, c7⟩ := onCells_at r.L k x hk
    exact ⟨Nat.lt_of_lt_of_le hlt hc.size, fun j => (hc.frozen (p := ⟨g, j, none⟩) hlt (by simp)).trans (hfz j), (e _).trans (hcell _ _ c0), (e _).trans (hcell _ _ c1), (e _).trans (hcell _ _ c2), (e _).trans (hcell _ _ c3), (e _).trans (hcell _ _ c4), (e _).trans (hcell _ _ c5), (e _).trans (hcell _ _ c6), (e _).trans (hcell _ _ c7)⟩
  · subst hg
    intro e
    have := hR.ty hB (by decide)
    exact this (by simp [foot_some, e])
end
def RTurns (b : Nat) (S : List Nat) (r' : Rf) (w w' : World) : Prop := ∃ S', RefAt w' b S' r' ∧ (∀ k ∈ S', k ∈ S ∨ w.heap.size ≤ k) ∧ Chg S w w'
section
variable {b : Nat} {S : List Nat} {r : Rf} {x y z : World}
theorem RTurns.refl (H : RefAt x b S r) (hc : Chg [] x y) : RTurns b S r x y := ⟨S, H.quiet hc, fun k hk => .inl hk, hc.any⟩
theorem RTurns.later (H : RTurns b S r x y) (hc : Chg [] y z) : RTurns b S r x z := by
  obtain ⟨S', h1, h2, h3⟩ := H
  exact ⟨S', h1.quiet hc, h2, h3.then hc⟩
theorem RTurns.earlier (H : RTurns b S r y z) (hc : Chg [] x y) : RTurns b S r x z := by
  obtain ⟨S', h1, h2, h3⟩ := H
  exact ⟨S', h1, fun k hk => (h2 k hk).imp id (fun h => Nat.le_trans hc.size h), (Chg.any hc).trans h3 (fun k hk => .inl hk)⟩
theorem RTurns.trans {S1 : List Nat} (hs : ∀ k ∈ S1, k ∈ S ∨ x.heap.size ≤ k) (hc : Chg S x y) (H : RTurns b S1 r y z) : RTurns b S r x z := by
  obtain ⟨S2, h1, h2, h3⟩ := H
  refine ⟨S2, h1, fun k hk => ?_, hc.trans h3 hs⟩
  rcases h2 k hk with h | h
  · exact hs k h
  · exact .inr (Nat.le_trans hc.size h)
end
/-- The list is another one now, in a row of its own. -/
theorem RefAt.relist {w W : World} {b : Nat} {S : List Nat} {r : Rf} (H : RefAt w b S r) (hc : Chg [] w W) {V : Value} {l : List On} (hR : Row W 66 8 V l.length (onCells l)) (hV : ∀ k ∈ foot V, w.heap.size ≤ k) : RTurns b S { r with L := l } w (W.setCell ⟨b, 3, none⟩ V) := by
  have hb := H.lt b H.mem
  obtain ⟨V0, hB, hR0, rfl⟩ := H
  have hbV : b ∉ foot V := fun hk => by have := hV b hk; omega
  refine ⟨b :: foot V, ⟨V, (hB.quiet hc).set_ 3 V, hR.far hbV V, rfl⟩, fun k hk => ?_, (Chg.any hc).setCell (.inl (by simp)) V⟩
  rcases List.mem_cons.1 hk with rfl | hk
  · exact .inl (by simp)
  · exact .inr (hV k hk)
/-! ### Where a place stands in the list -/
def fnd (q : On → Bool) : List On → Nat
  | [] => 0
  | x :: l => if q x then 0 else fnd q l + 1
theorem fnd_le (q : On → Bool) (l : List On) : fnd q l ≤ l.length := by
  induction l with
  | nil => exact Nat.le_refl _
  | cons x l ih => unfold fnd; split <;> simp <;> omega
theorem fnd_first {q : On → Bool} : ∀ {l : List On} {k : Nat} {x : On}, (∀ j y, j < k → l[j]? = some y → q y = false) → l[k]? = some x → q x = true → fnd q l = k
  | [], k, x, _, h, _ => by simp at h
  | y :: l, 0, x, _, h, hq => by simp at h; subst h; unfold fnd; rw [if_pos hq]
  | y :: l, k + 1, x, h1, h, hq => by
    have h0 := h1 0 y (by omega) (by simp)
    unfold fnd
    rw [h0, if_neg (by simp), fnd_first (l := l) (k := k) (fun j z hj hz => h1 (j + 1) z (by omega) (by simpa using hz)) (by simpa using h) hq]
theorem fnd_none {q : On → Bool} : ∀ {l : List On}, (∀ j y, j < l.length → l[j]? = some y → q y = false) → fnd q l = l.length
  | [], _ => rfl
  | y :: l, h1 => by
    have h0 := h1 0 y (by simp) (by simp)
    unfold fnd
    rw [h0, if_neg (by simp), fnd_none (l := l) (fun j z hj hz => h1 (j + 1) z (by simp; omega) (by simpa using hz))]
    rfl
theorem fnd_mem {q : On → Bool} : ∀ {l : List On}, fnd q l < l.length → ∃ x, l[fnd q l]? = some x ∧ q x = true
  | [], h => by simp [fnd] at h
  | y :: l, h => by
    unfold fnd at h ⊢
    cases hq : q y with
    | true => exact ⟨y, by simp, hq⟩
    | false =>
      rw [hq] at h
      simp only [Bool.false_eq_true, if_false, List.length_cons] at h ⊢
      obtain ⟨x, h1, h2⟩ := fnd_mem (q := q) (l := l) (by omega)
      exact ⟨x, by simpa using h1, h2⟩
def atP (p : Pt) (x : On) : Bool := decide (x.g = p.g) && decide (x.s = p.s)
def Rf.fd (r : Rf) (p : Pt) : Nat := fnd (atP p) r.L
/-- What Find answers. -/
def Rf.fI (r : Rf) (p : Pt) : Int := if r.fd p < r.L.length then ((r.fd p : Nat) : Int) else -1
end Go.Proofs
end
section
namespace Go.Proofs
open Go.RowKit
set_option linter.unusedVariables false
set_option linter.unusedSimpArgs false
section
variable {w : World} {b : Nat} {S : List Nat} {r : Rf}
set_option maxHeartbeats 3200000 in
set_option maxRecDepth 100000 in
theorem find_is (H : RefAt w b S r) (hl : r.L.length ≤ 100000) (p : Pt) : Calls Try.prog 27 #[ptr b, .int .i64 p.g, .int .i64 p.s] w fun e w' => e = .returned (.int .i64 (r.fI p)) ∧ w' = w := by
  obtain ⟨A, cc, hA, hcc, hh, hrow, _⟩ := H.head
  obtain ⟨_, _, _, c3, _, lb, _, _⟩ := hh w (Chg.refl _ _)
  have HROW := Lib.hid hrow
  obtain ⟨N, hN⟩ : ∃ N, N = r.L.length := ⟨_, rfl⟩
  have HN := Lib.hid hN
  rw [← hN] at c3 hl
  have HF := Lib.hid (show ∀ k x, (∀ j y, j < k → r.L[j]? = some y → atP p y = false) → r.L[k]? = some x → atP p x = true → r.fI p = (k : Nat) from fun k x h1 h2 h3 => by
    have := fnd_first h1 h2 h3
    have hk := (List.getElem?_eq_some_iff.1 h2).1
    unfold Rf.fI Rf.fd
    rw [this, if_pos hk])
  have HF0 := Lib.hid (show (∀ j y, j < N → r.L[j]? = some y → atP p y = false) → r.fI p = -1 from fun h1 => by
    have := fnd_none (l := r.L) (q := atP p) (by rw [← hN]; exact h1)
    unfold Rf.fI Rf.fd
    rw [this, if_neg (by omega)])
  clear H hh hrow hN hA hcc
  go_enter Try.func27, Try.ntmps27
  go_wp2
  go_loopg [7] N (fun gh i wr => ∃ k : Nat, k + gh = N ∧ i = .int .i64 k ∧ wr = w ∧ Hid (∀ j y, j < k → r.L[j]? = some y → atP p y = false))
  case atStart => exact ⟨0, by omega, rfl, rfl, Lib.hid (fun j y hj => by omega)⟩
  case round =>
    obtain ⟨k, hk, rfl, rfl, HI⟩ := hrel
    by_cases hlt : k < N
    · obtain ⟨x, hx⟩ : ∃ x, r.L[k]? = some x := ⟨_, List.getElem?_eq_getElem (by rw [← HN.out]; exact hlt)⟩
      obtain ⟨g, rfl, hgb, hcell⟩ := HROW.out k x hx
      obtain ⟨lg, _, x0, x1, x2, x3, _⟩ := hcell wr (Chg.refl _ _)
      have k0 : (0 : Int) ≤ (k : Int) := by omega
      have k1 : (k : Int) < (N : Int) := by omega
      have HX := Lib.hid hx
      obtain ⟨xi, xp, xg, xs, xc⟩ := x
      simp only at x2 x3
      clear hcell hx x0 x1
      by_cases e1 : xg = p.g
      · have d1 : (xg == p.g) = true := by simpa using e1
        by_cases e2 : xs = p.s
        · have d2 : (xs == p.s) = true := by simpa using e2
          have HR := Lib.hid (HF.out k _ HI.out HX.out (by unfold atP; simp [e1, e2]))
          clear e1 e2
          go_wp2
          go_ret
          exact ⟨by rw [HR.out]; rfl, rfl⟩
        · have d2 : (xs == p.s) = false := by simpa using e2
          have HNX := Lib.hid (show ∀ j y, j < k + 1 → r.L[j]? = some y → atP p y = false from fun j y hj hy => by
            by_cases ej : j = k
            · subst ej
              rw [HX.out] at hy
              cases hy
              unfold atP; simp [e2]
            · exact HI.out j y (by omega) hy)
          clear e1 e2
          go_wp2
          go_roundg (N - k - 1)
          case measure => omega
          case rel => exact ⟨k + 1, by omega, by go_num, rfl, HNX⟩
      · have d1 : (xg == p.g) = false := by simpa using e1
        have HNX := Lib.hid (show ∀ j y, j < k + 1 → r.L[j]? = some y → atP p y = false from fun j y hj hy => by
          by_cases ej : j = k
          · subst ej
            rw [HX.out] at hy
            cases hy
            unfold atP; simp [e1]
          · exact HI.out j y (by omega) hy)
        clear e1
        go_wp2
        go_roundg (N - k - 1)
        case measure => omega
        case rel => exact ⟨k + 1, by omega, by go_num, rfl, HNX⟩
    · obtain rfl : k = N := by omega
      have HR := Lib.hid (HF0.out HI.out)
      go_wp2
      go_ret
      exact ⟨by rw [HR.out]; rfl, rfl⟩
def Rf.slot (r : Rf) (p : Pt) : Bool := decide (0 ≤ p.g ∧ p.g < r.gs ∧ 0 ≤ p.s ∧ p.s < r.slots)
theorem there_is (H : RefAt w b S r) (p : Pt) : Calls Try.prog 77 #[ptr b, .int .i64 p.g, .int .i64 p.s] w fun e w' => e = .returned (.bool (r.slot p)) ∧ w' = w := by
  obtain ⟨A, cc, hA, hcc, hh, _, _⟩ := H.head
  obtain ⟨c0, c1, _, _, _, lb, _, _⟩ := hh w (Chg.refl _ _)
  obtain ⟨G, hG⟩ : ∃ G, G = r.gs := ⟨_, rfl⟩
  obtain ⟨Z, hZ⟩ : ∃ Z, Z = r.slots := ⟨_, rfl⟩
  have HS := Lib.hid (show r.slot p = decide (0 ≤ p.g ∧ p.g < G ∧ 0 ≤ p.s ∧ p.s < Z) by unfold Rf.slot; rw [hG, hZ])
  obtain ⟨z, hz⟩ : ∃ z, z = r.slot p := ⟨_, rfl⟩
  have HZ := Lib.hid (hz.trans HS.out)
  rw [← hz]
  rw [← hG] at c0
  rw [← hZ] at c1
  clear H hh hA hcc hG hZ HS hz
  by_cases e1 : 0 ≤ p.g
  · have d1 : decide (0 ≤ p.g) = true := decide_eq_true e1
    by_cases e2 : p.g < G
    · have d2 : decide (p.g < (G : Int)) = true := decide_eq_true e2
      by_cases e3 : 0 ≤ p.s
      · have d3 : decide (0 ≤ p.s) = true := decide_eq_true e3
        by_cases e4 : p.s < Z
        · have d4 : decide (p.s < (Z : Int)) = true := decide_eq_true e4
          obtain rfl : z = true := HZ.out.trans (decide_eq_true ⟨e1, e2, e3, e4⟩)
          go_enter Try.func77, Try.ntmps77
          go_wp2
          go_ret
          exact ⟨rfl, rfl⟩
        · have d4 : decide (p.s < (Z : Int)) = false := decide_eq_false e4
          obtain rfl : z = false := HZ.out.trans (decide_eq_false (fun h => e4 h.2.2.2))
          go_enter Try.func77, Try.ntmps77
          go_wp2
          go_ret
          exact ⟨rfl, rfl⟩
      · have d3 : decide (0 ≤ p.s) = false := decide_eq_false e3
        obtain rfl : z = false := HZ.out.trans (decide_eq_false (fun h => e3 h.2.2.1))
        go_enter Try.func77, Try.ntmps77
        go_wp2
        go_ret
        exact ⟨rfl, rfl⟩
    · have d2 : decide (p.g < (G : Int)) = false := decide_eq_false e2
      obtain rfl : z = false := HZ.out.trans (decide_eq_false (fun h => e2 h.2.1))
      go_enter Try.func77, Try.ntmps77
      go_wp2
      go_ret
      exact ⟨rfl, rfl⟩
  · have d1 : decide (0 ≤ p.g) = false := decide_eq_false e1
    obtain rfl : z = false := HZ.out.trans (decide_eq_false (fun h => e1 h.1))
    go_enter Try.func77, Try.ntmps77
    go_wp2
    go_ret
    exact ⟨rfl, rfl⟩
/-- Is something there? -/
def Rf.has (r : Rf) (p : Pt) : Bool := decide (r.fd p < r.L.length)
def Rf.fullE (r : Rf) (p : Pt) : Int := if r.slot p then if r.has p then 0 else 10 else 9
def Rf.freeE (r : Rf) (p : Pt) : Int := if r.slot p then if r.has p then 14 else 0 else 9
theorem Rf.fI_lt {r : Rf} {p : Pt} : decide (r.fI p < 0) = !r.has p := by
  unfold Rf.fI Rf.has
  by_cases h : r.fd p < r.L.length
  · rw [if_pos h, decide_eq_true h]; simp
  · rw [if_neg h, decide_eq_false h]; simp
theorem Rf.fI_ge {r : Rf} {p : Pt} : decide (0 ≤ r.fI p) = r.has p := by
  unfold Rf.fI Rf.has
  by_cases h : r.fd p < r.L.length
  · rw [if_pos h, decide_eq_true h]; simp
  · rw [if_neg h, decide_eq_false h]; simp
theorem full_is (H : RefAt w b S r) (hl : r.L.length ≤ 100000) (p : Pt) : Calls Try.prog 43 #[ptr b, .int .i64 p.g, .int .i64 p.s] w fun e w' => e = .returned (.int .i64 (r.fullE p)) ∧ w' = w := by
  have H1 := there_is H p
  have H2 := find_is H hl p
  have hd := Rf.fI_lt (r := r) (p := p)
  unfold Rf.fullE
  obtain ⟨z, hz⟩ : ∃ z, z = r.slot p := ⟨_, rfl⟩
  obtain ⟨y, hy⟩ : ∃ y, y = r.has p := ⟨_, rfl⟩
  obtain ⟨f, hf⟩ : ∃ f, f = r.fI p := ⟨_, rfl⟩
  rw [← hz] at H1 ⊢
  rw [← hy] at hd ⊢
  rw [← hf] at H2 hd
  clear H hz hy hf
  cases z <;> cases y <;>
  (go_enter Try.func43, Try.ntmps43
   go_wp2_with (first | (go_at_call 77; refine H1.mono ?_; rintro e w' ⟨rfl, rfl⟩) | (go_at_call 27; refine H2.mono ?_; rintro e w' ⟨rfl, rfl⟩))
   go_ret
   exact ⟨rfl, rfl⟩)
theorem rfree_is (H : RefAt w b S r) (hl : r.L.length ≤ 100000) (p : Pt) : Calls Try.prog 44 #[ptr b, .int .i64 p.g, .int .i64 p.s] w fun e w' => e = .returned (.int .i64 (r.freeE p)) ∧ w' = w := by
  have H1 := there_is H p
  have H2 := find_is H hl p
  have hd := Rf.fI_ge (r := r) (p := p)
  unfold Rf.freeE
  obtain ⟨z, hz⟩ : ∃ z, z = r.slot p := ⟨_, rfl⟩
  obtain ⟨y, hy⟩ : ∃ y, y = r.has p := ⟨_, rfl⟩
  obtain ⟨f, hf⟩ : ∃ f, f = r.fI p := ⟨_, rfl⟩
  rw [← hz] at H1 ⊢
  rw [← hy] at hd ⊢
  rw [← hf] at H2 hd
  clear H hz hy hf
  cases z <;> cases y <;>
  (go_enter Try.func44, Try.ntmps44
   go_wp2_with (first | (go_at_call 77; refine H1.mono ?_; rintro e w' ⟨rfl, rfl⟩) | (go_at_call 27; refine H2.mono ?_; rintro e w' ⟨rfl, rfl⟩))
   go_ret
   exact ⟨rfl, rfl⟩)
end
theorem mayB_ok {c : Cp} (h : c.ok) : mayB c = decide ((c.kind = 1 ∨ c.kind = 2 ∨ c.kind = 3) ∧ 0 ≤ c.idx ∧ 0 < c.gen) := by
  unfold mayB
  obtain ⟨_, _, h1, _, _⟩ := h
  congr 1
  apply propext
  omega
set_option maxHeartbeats 1600000 in
theorem rmay_any {c : Cp} (hc : c.ok) (w : World) : Calls Try.prog 76 #[c.val] w fun e w' => e = .returned (.bool (mayB c)) ∧ Chg [] w w' := by
  rw [mayB_ok hc]
  obtain ⟨k, i, g, r⟩ := c
  simp only
  obtain ⟨z, hz⟩ : ∃ z, z = decide ((k = 1 ∨ k = 2 ∨ k = 3) ∧ 0 ≤ i ∧ 0 < g) := ⟨_, rfl⟩
  rw [← hz]
  have HZ := Lib.hid hz
  clear hc hz
  by_cases h1 : k = 1
  · have d1 : (k == 1) = true := by simpa using h1
    by_cases h3 : 0 ≤ i
    · have d3 : decide (0 ≤ i) = true := decide_eq_true h3
      by_cases h4 : 0 < g
      · have d4 : decide (0 < g) = true := decide_eq_true h4
        obtain rfl : z = true := HZ.out.trans (decide_eq_true ⟨.inl h1, h3, h4⟩)
        clear h1 HZ
        go_enter Try.func76, Try.ntmps76
        go_wp2
        go_ret
        exact ⟨rfl, (Chg.refl _ _).alloc _⟩
      · have d4 : decide (0 < g) = false := decide_eq_false h4
        obtain rfl : z = false := HZ.out.trans (decide_eq_false (fun h => h4 h.2.2))
        clear h1 HZ
        go_enter Try.func76, Try.ntmps76
        go_wp2
        go_ret
        exact ⟨rfl, (Chg.refl _ _).alloc _⟩
    · have d3 : decide (0 ≤ i) = false := decide_eq_false h3
      obtain rfl : z = false := HZ.out.trans (decide_eq_false (fun h => h3 h.2.1))
      clear h1 HZ
      go_enter Try.func76, Try.ntmps76
      go_wp2
      go_ret
      exact ⟨rfl, (Chg.refl _ _).alloc _⟩
  · have d1 : (k == 1) = false := by simpa using h1
    by_cases h2 : k = 2
    · have d2 : (k == 2) = true := by simpa using h2
      by_cases h3 : 0 ≤ i
      · have d3 : decide (0 ≤ i) = true := decide_eq_true h3
        by_cases h4 : 0 < g
        · have d4 : decide (0 < g) = true := decide_eq_true h4
          obtain rfl : z = true := HZ.out.trans (decide_eq_true ⟨.inr (.inl h2), h3, h4⟩)
          clear h1 h2 HZ
          go_enter Try.func76, Try.ntmps76
          go_wp2
          go_ret
          exact ⟨rfl, (Chg.refl _ _).alloc _⟩
        · have d4 : decide (0 < g) = false := decide_eq_false h4
          obtain rfl : z = false := HZ.out.trans (decide_eq_false (fun h => h4 h.2.2))
          clear h1 h2 HZ
          go_enter Try.func76, Try.ntmps76
          go_wp2
          go_ret
          exact ⟨rfl, (Chg.refl _ _).alloc _⟩
      · have d3 : decide (0 ≤ i) = false := decide_eq_false h3
        obtain rfl : z = false := HZ.out.trans (decide_eq_false (fun h => h3 h.2.1))
        clear h1 h2 HZ
        go_enter Try.func76, Try.ntmps76
        go_wp2
        go_ret
        exact ⟨rfl, (Chg.refl _ _).alloc _⟩
    · have d2 : (k == 2) = false := by simpa using h2
      by_cases h5 : k = 3
      · have d5 : (k == 3) = true := by simpa using h5
        by_cases h3 : 0 ≤ i
        · have d3 : decide (0 ≤ i) = true := decide_eq_true h3
          by_cases h4 : 0 < g
          · have d4 : decide (0 < g) = true := decide_eq_true h4
            obtain rfl : z = true := HZ.out.trans (decide_eq_true ⟨.inr (.inr h5), h3, h4⟩)
            clear h1 h2 h5 HZ
            go_enter Try.func76, Try.ntmps76
            go_wp2
            go_ret
            exact ⟨rfl, (Chg.refl _ _).alloc _⟩
          · have d4 : decide (0 < g) = false := decide_eq_false h4
            obtain rfl : z = false := HZ.out.trans (decide_eq_false (fun h => h4 h.2.2))
            clear h1 h2 h5 HZ
            go_enter Try.func76, Try.ntmps76
            go_wp2
            go_ret
            exact ⟨rfl, (Chg.refl _ _).alloc _⟩
        · have d3 : decide (0 ≤ i) = false := decide_eq_false h3
          obtain rfl : z = false := HZ.out.trans (decide_eq_false (fun h => h3 h.2.1))
          clear h1 h2 h5 HZ
          go_enter Try.func76, Try.ntmps76
          go_wp2
          go_ret
          exact ⟨rfl, (Chg.refl _ _).alloc _⟩
      · have d5 : (k == 3) = false := by simpa using h5
        obtain rfl : z = false := HZ.out.trans (decide_eq_false (fun h => by rcases h.1 with h | h | h; exact h1 h; exact h2 h; exact h5 h))
        clear h1 h2 h5 HZ
        go_enter Try.func76, Try.ntmps76
        go_wp2
        go_ret
        exact ⟨rfl, (Chg.refl _ _).alloc _⟩
end Go.Proofs
end
section
namespace Go.Proofs
open Go.RowKit
set_option linter.unusedVariables false
set_option linter.unusedSimpArgs false

/-! ### The document's Among -/
def sh (s : Int) (k : Nat) : Int := s / 2 ^ k
theorem sh_0 (s : Int) : sh s 0 = s := by unfold sh; simp
theorem sh_succ (s : Int) (k : Nat) : sh s (k + 1) = sh s k / 2 := by
  unfold sh
  rw [Int.pow_succ, Int.ediv_ediv_of_nonneg (Int.pow_nonneg (by decide))]
theorem sh_bd (s : Int) (k : Nat) (h0 : 0 ≤ s) (h1 : s < 256) : 0 ≤ sh s k ∧ sh s k < 256 := by
  induction k with
  | zero => rw [sh_0]; exact ⟨h0, h1⟩
  | succ k ih => rw [sh_succ]; omega
theorem sh_bit (r k : Nat) : (sh (r : Int) k % 2 == 1) = r.testBit k := by
  unfold sh
  rw [Nat.testBit_eq_decide_div_mod_eq, Bool.eq_iff_iff, beq_iff_eq, decide_eq_true_iff]
  have : ((2 : Int) ^ k) = ((2 ^ k : Nat) : Int) := by simp
  rw [this]
  omega
theorem sh_bit0 (r k : Nat) : (sh (r : Int) k % 2 == 0) = !r.testBit k := by
  rw [← sh_bit]
  have h : sh (r : Int) k % 2 = 0 ∨ sh (r : Int) k % 2 = 1 := by omega
  rcases h with h | h <;> rw [h] <;> rfl
set_option maxHeartbeats 2000000 in
set_option maxRecDepth 100000 in
theorem ramong_any {a f : Nat} (ha : a < 256) (hf : f < 256) (w : World) : Calls Try.prog 19 #[.int .u8 (a : Nat), .int .u8 (f : Nat)] w fun e w' => e = .returned (.bool (amongP a f)) ∧ w' = w := by
  obtain ⟨z, hz⟩ : ∃ z, z = amongP a f := ⟨_, rfl⟩
  have HZ1 := Lib.hid (show ∀ k, k < 8 → a.testBit k = true → f.testBit k = false → z = false from fun k hk h1 h2 => by
    rw [hz]
    cases h : amongP a f
    · rfl
    · rw [(amongP_iff ha hf).1 h k hk h1] at h2; cases h2)
  have HZ2 := Lib.hid (show (∀ j, j < 8 → a.testBit j = true → f.testBit j = true) → z = true from fun h => by rw [hz]; exact (amongP_iff ha hf).2 h)
  rw [← hz]
  clear hz
  go_enter Try.func19, Try.ntmps19
  go_wp2
  go_loopg [0, 1, 5] 8 (fun gh x y i wr => ∃ k : Nat, k + gh = 8 ∧ x = .int .u8 (sh a k) ∧ y = .int .u8 (sh f k) ∧ i = .int .i64 k ∧ wr = w ∧ Hid (∀ j, j < k → a.testBit j = true → f.testBit j = true))
  case atStart => exact ⟨0, by omega, by rw [sh_0], by rw [sh_0], rfl, rfl, Lib.hid (fun j hj => by omega)⟩
  case round =>
    obtain ⟨k, hk, rfl, rfl, rfl, rfl, HI⟩ := hrel
    obtain ⟨b0, b1⟩ := sh_bd a k (by omega) (by omega)
    obtain ⟨c0, c1⟩ := sh_bd f k (by omega) (by omega)
    by_cases hlt : k < 8
    · have hs := Lib.hid (sh_succ a k)
      have ht := Lib.hid (sh_succ f k)
      have s1 := sh_bit a k
      have s2 := sh_bit0 f k
      cases h1 : a.testBit k with
      | false =>
        rw [h1] at s1
        have HN := Lib.hid (show ∀ j, j < k + 1 → a.testBit j = true → f.testBit j = true from fun j hj h => by
          by_cases e : j = k
          · subst e; rw [h1] at h; cases h
          · exact HI.out j (by omega) h)
        clear h1 s2
        go_wp2
        go_roundg (8 - k - 1)
        case measure => omega
        case rel => exact ⟨k + 1, by omega, by rw [hs.out], by rw [ht.out], by go_num, rfl, HN⟩
      | true =>
        rw [h1] at s1
        cases h2 : f.testBit k with
        | false =>
          rw [h2] at s2
          have HF := Lib.hid (HZ1.out k hlt h1 h2)
          clear h1 h2
          simp only [Bool.not_false] at s2
          go_wp2
          go_ret
          exact ⟨by rw [HF.out]; rfl, rfl⟩
        | true =>
          rw [h2] at s2
          have HN := Lib.hid (show ∀ j, j < k + 1 → a.testBit j = true → f.testBit j = true from fun j hj h => by
            by_cases e : j = k
            · subst e; exact h2
            · exact HI.out j (by omega) h)
          clear h1 h2
          simp only [Bool.not_true] at s2
          go_wp2
          go_roundg (8 - k - 1)
          case measure => omega
          case rel => exact ⟨k + 1, by omega, by rw [hs.out], by rw [ht.out], by go_num, rfl, HN⟩
    · obtain rfl : k = 8 := by omega
      have HF := Lib.hid (HZ2.out HI.out)
      go_wp2
      go_ret
      exact ⟨by rw [HF.out]; rfl, rfl⟩
end Go.Proofs
end
section
namespace Go.Proofs
open Go.RowKit
set_option linter.unusedVariables false
set_option linter.unusedSimpArgs false

/-! ### Appends of the document's capabilities -/
theorem run_append_on (w : World) (ty : TypeId) {v x : Value} {xs l : List On} (hr : Row w 66 8 v xs.length (onCells xs)) (hx : Row w 66 8 x l.length (onCells l)) (hb : xs.length + l.length ≤ 1000000) :
    ∃ v' w', (Builtin.append_ #[62, 62] ty #[v, x]).run Try.prog w = .ok v' w' ∧ Row w' 66 8 v' (xs ++ l).length (onCells (xs ++ l)) ∧ w.grownBy w' v.ownBlock ∧ (∀ k ∈ foot v', k ∈ foot v ∨ w.heap.size ≤ k) := by
  obtain ⟨i0, hi0, hz0, hz1, hz2⟩ := info_parts on_info
  rcases Nat.eq_zero_or_pos l.length with h0 | h0
  · have hl : l = [] := List.eq_nil_of_length_eq_zero h0
    subst hl
    obtain ⟨A, c, rfl, _⟩ := hx.val
    obtain ⟨A', c', rfl, hA'⟩ := hr.val
    have hle : xs.length ≤ c' := by
      rcases hr.2 with ⟨hv, h0⟩ | ⟨g, cap, cur, hv, _, hc, _⟩
      · omega
      · injection hv with _ _ hv; omega
    refine ⟨_, w, run_append_nothing w 62 62 ty 66 i0 Try.underlying62 hi0 A' xs.length c' hle (.slice A 0 c) ?_, by simpa using hr, World.grownBy.refl w _, fun k hk => .inl hk⟩
    have hc : ∀ W : World, (Builtin.firstCells i0.size 0 (.slice A 0 c)).run Try.prog W = .ok #[] W := fun W => by
      cases A with
      | none => exact run_firstCells_none W i0.size 0 0 c
      | some a => exact run_firstCells_some W i0.size 0 a 0 c [] (by simp) (fun j u hj => by simp at hj)
    exact ⟨.inl ⟨66, Try.underlying62⟩, fun w' => by simp [Builtin.lenOf], hc w, hc _, by simp, by simp⟩
  · obtain ⟨g, c, rfl, _, _, hcell, _, _⟩ := hx.form h0
    obtain ⟨gg, cap, w', q1, q2, q3, q4, q5⟩ := run_append_row (P := Try.prog) w 62 ty 66 i0 _ 8 64 Try.underlying62 hi0 hz0 hz1 hz2 rfl v xs.length (onCells xs) hr ⟨g, 0, none⟩ l.length c (onCells l) (onCells_len l)
      (fun j u hu => by
        have hadd : (⟨g, 0, none⟩ : Addr).add j = ⟨g, j, none⟩ := by unfold Addr.add; split <;> simp_all
        rw [hadd]
        exact hcell j u hu) (onCells_one l) h0 (by unfold maxLen; omega) (by omega) w.heap.size rfl
    have e : onCells xs ++ onCells l = onCells (xs ++ l) := by unfold onCells; simp
    rw [e] at q2
    rw [← List.length_append] at q1 q2
    exact ⟨_, w', q1, q2, q3, foot_grown q4 (fun k hk => hk)⟩
/-- A row of the call's own, in new blocks. -/
def FreshO (w w' : World) (v : Value) (l : List On) : Prop := Row w' 66 8 v l.length (onCells l) ∧ (∀ k ∈ foot v, w.heap.size ≤ k) ∧ Chg [] w w'
theorem FreshO.nil {w w1 : World} (h : Chg [] w w1) : FreshO w w1 (.slice none 0 0) [] := ⟨Row.nil _ _ _, (fun k hk => by cases hk), h⟩
theorem FreshO.later {w w1 w2 : World} {v : Value} {l : List On} (h : FreshO w w1 v l) (hc : Chg [] w1 w2) : FreshO w w2 v l := ⟨h.1.chg hc (fun _ _ h => by cases h), h.2.1, h.2.2.then hc⟩
theorem FreshO.append {w w1 w2 : World} {v v' : Value} {xs l : List On} (h : FreshO w w1 v xs) (hr : Row w2 66 8 v' (xs ++ l).length (onCells (xs ++ l))) (hg : w1.grownBy w2 v.ownBlock) (hf : ∀ k ∈ foot v', k ∈ foot v ∨ w1.heap.size ≤ k) : FreshO w w2 v' (xs ++ l) := by
  refine ⟨hr, fun k hk => ?_, ?_⟩
  · rcases hf k hk with h1 | h1
    · exact h.2.1 k h1
    · have := h.2.2.size; omega
  · exact h.2.2.grown hg (fun k hk => .inr (h.2.1 k (row_mem hk)))
theorem Row.oneO (w : World) (x : On) : Row (w.alloc (.cells x.arr 66)) 66 8 (.slice (some ⟨w.heap.size, 0, none⟩) 1 1) 1 (onCells [x]) :=
  ⟨rfl, .inr ⟨w.heap.size, 1, _, rfl, Blk.new w 66 _, Nat.le_refl _, by unfold maxLen; omega, Nat.le_refl _, rfl⟩⟩
theorem Row.oneO' {w : World} {g : Nat} {x : On} (h : Blk w g 66 x.arr) : Row w 66 8 (.slice (some ⟨g, 0, none⟩) 1 1) 1 (onCells [x]) :=
  ⟨rfl, .inr ⟨g, 1, _, rfl, h, Nat.le_refl _, by unfold maxLen; omega, Nat.le_refl _, rfl⟩⟩
theorem wpList_append_on (w : World) {ops : Array Oper} {rest : List Oper} {o : Oper} {a : Act} {Q : Exit → Act → World → Prop} (hgd : o.guard = none) (s y : Operand)
    (ho : o.op = .call { callee := .builtin .append, args := #[s, y], argTypes := #[62, 62] })
    {v x : Value} {xs l : List On} {n m : Nat} (hs : a.eval s = v) (hy : a.eval y = x) (hr : Row w 66 8 v m (onCells xs)) (hm : m = xs.length) {m' : Nat} (hx : Row w 66 8 x m' (onCells l)) (hm' : m' = l.length) (hb : xs.length + l.length ≤ 1000000) (hn : n = xs.length + l.length)
    (h : ∀ A' c' w', Row w' 66 8 (.slice A' n c') (xs ++ l).length (onCells (xs ++ l)) → w.grownBy w' v.ownBlock → (∀ k ∈ foot (.slice A' n c'), k ∈ foot v ∨ w.heap.size ≤ k) → wpList Try.prog ops Q rest (a.put o.dst (.slice A' n c')) w') : wpList Try.prog ops Q (o :: rest) a w := by
  subst hn hm hm'
  obtain ⟨v', w', h1, h2, h3, h4⟩ := run_append_on w o.type hr hx hb
  obtain ⟨A', c', rfl, _⟩ := h2.val
  rw [List.length_append] at h1 h2 h4
  rw [← List.length_append] at h2
  exact Lib.wpList_append_run w hgd s y 62 62 ho v x hs hy _ w' h1 (h A' c' w' (by simpa using h2) h3 h4)
theorem step_append_on (w : World) {ops : Array Oper} {o : Oper} {a : Act} {K : Act → World → Prop} {Q : Exit → Act → World → Prop} {E : Prop} (hgd : o.guard = none) (s y : Operand)
    (ho : o.op = .call { callee := .builtin .append, args := #[s, y], argTypes := #[62, 62] })
    {v x : Value} {xs l : List On} {n m : Nat} (hs : a.eval s = v) (hy : a.eval y = x) (hr : Row w 66 8 v m (onCells xs)) (hm : m = xs.length) {m' : Nat} (hx : Row w 66 8 x m' (onCells l)) (hm' : m' = l.length) (hb : xs.length + l.length ≤ 1000000) (hn : n = xs.length + l.length)
    (h : ∀ A' c' w', Row w' 66 8 (.slice A' n c') (xs ++ l).length (onCells (xs ++ l)) → w.grownBy w' v.ownBlock → (∀ k ∈ foot (.slice A' n c'), k ∈ foot v ∨ w.heap.size ≤ k) → K (a.put o.dst (.slice A' n c')) w') :
    if Region.wanted o (yielded ops a.tmps) = true then Oper.wp Try.prog o a w K Q else E := by
  have hw : Region.wanted o (yielded ops a.tmps) = true := by simp [Region.wanted, hgd]
  rw [if_pos hw]
  subst hn hm hm'
  obtain ⟨v', w', h1, h2, h3, h4⟩ := run_append_on w o.type hr hx hb
  obtain ⟨A', c', rfl, _⟩ := h2.val
  rw [List.length_append] at h1 h2 h4
  rw [← List.length_append] at h2
  unfold Oper.wp execOp
  simp only [ho, resolve, invoke, builtin, Sem.run_bind, Sem.run_pure, Result.andThen_ok, List.map_toArray, List.map_cons, List.map_nil, hs, hy, h1]
  exact h A' c' w' (by simpa using h2) h3 h4
end Go.Proofs
end
section
namespace Go.Proofs
open Go.RowKit
set_option linter.unusedVariables false
set_option linter.unusedSimpArgs false

/-! ### The document's Put -/
def Rf.bad (r : Rf) (parent rts : Nat) : Bool := r.L.any fun x => decide (x.id = parent) && !amongP rts x.cap.rts
def Rf.putE (r : Rf) (parent : Nat) (p : Pt) (c : Cp) : Int := if r.freeE p = 0 then if mayB c then if r.bad parent c.rts then 13 else if r.nodes ≤ r.L.length then 3 else 0 else 2 else r.freeE p
def Rf.putR (r : Rf) (parent : Nat) (p : Pt) (c : Cp) : Rf := { r with L := r.L ++ [⟨r.came + 1, parent, p.g, p.s, c⟩], came := r.came + 1 }
def Rf.put (r : Rf) (parent : Nat) (p : Pt) (c : Cp) : Rf := if r.putE parent p c = 0 then r.putR parent p c else r
theorem bad_at {r : Rf} {parent rts k : Nat} {x : On} (hx : r.L[k]? = some x) (h1 : x.id = parent) (h2 : amongP rts x.cap.rts = false) : r.bad parent rts = true := by
  unfold Rf.bad
  rw [List.any_eq_true]
  exact ⟨x, List.mem_of_getElem? hx, by simp [h1, h2]⟩
theorem bad_none {r : Rf} {parent rts : Nat} (h : ∀ j y, j < r.L.length → r.L[j]? = some y → y.id = parent → amongP rts y.cap.rts = true) : r.bad parent rts = false := by
  unfold Rf.bad
  rw [List.any_eq_false]
  intro y hy
  obtain ⟨j, hj⟩ := List.getElem?_of_mem hy
  by_cases e : y.id = parent
  · rw [h j y (List.getElem?_eq_some_iff.1 hj).1 hj e]; simp
  · simp [e]
theorem Row.oneK {w : World} {g K parent : Nat} {pg ps ck ci cg : Int} {cr : Nat} (h : Blk w g 66 #[.int .i64 ((K : Int) + 1), .int .i64 (parent : Nat), .int .i64 pg, .int .i64 ps, .int .i64 ck, .int .i64 ci, .int .u64 cg, .int .u8 (cr : Nat)]) : Row w 66 8 (.slice (some ⟨g, 0, none⟩) 1 1) 1 (onCells [⟨K + 1, parent, pg, ps, ⟨ck, ci, cg, cr⟩⟩]) :=
  Row.oneO' (x := ⟨K + 1, parent, pg, ps, ⟨ck, ci, cg, cr⟩⟩) h
section
variable {w : World} {b : Nat} {S : List Nat} {r : Rf}
def PutOut (r : Rf) (b : Nat) (S : List Nat) (parent : Nat) (p : Pt) (c : Cp) (w : World) (e : Ending) (w' : World) : Prop :=
  if r.bad parent c.rts then e = .returned (.int .i64 13) ∧ Chg [] w w' else if r.nodes ≤ r.L.length then e = .returned (.int .i64 3) ∧ Chg [] w w' else e = .returned (.int .i64 0) ∧ RTurns b S (r.putR parent p c) w w'
set_option maxHeartbeats 6400000 in
set_option maxRecDepth 100000 in
theorem put_go (H : RefAt w b S r) (hl : r.L.length ≤ 10000) (hcm : r.came ≤ 1000000) (parent : Nat) (p : Pt) {c : Cp} (hc : c.ok) (hrt : ∀ x ∈ r.L, x.cap.rts < 256) (hf : r.freeE p = 0) (hm : mayB c = true) :
    Calls Try.prog 41 #[ptr b, .int .i64 (parent : Nat), .int .i64 p.g, .int .i64 p.s, c.val] w fun e w' => PutOut r b S parent p c w e w' := by
  have H1 := Lib.hid (fun W (hq : Chg [] w W) => rfree_is (H.quiet hq) (by omega) p)
  have H2 := Lib.hid (fun W => rmay_any hc W)
  rw [hf] at H1
  rw [hm] at H2
  obtain ⟨A, cc, hA, hcc, hh, hrow, hgb⟩ := H.head
  have HH := Lib.hid hh
  have HROW := Lib.hid hrow
  have HGB := Lib.hid hgb
  have HRT := Lib.hid hrt
  have hcr : c.rts < 256 := hc.2.2.2.2
  have HBX := Lib.hid (fun W (hq : Chg [] (w.alloc (.cells c.arr 39)) W) => (Blk.new w 39 c.arr).quiet hq)
  have HW0 := Lib.hid ((Chg.refl [] w).alloc (.cells c.arr 39))
  obtain ⟨N, hN⟩ : ∃ N, N = r.L.length := ⟨_, rfl⟩
  obtain ⟨M, hM⟩ : ∃ M, M = r.nodes := ⟨_, rfl⟩
  obtain ⟨K, hK⟩ : ∃ K, K = r.came := ⟨_, rfl⟩
  have HN := Lib.hid hN
  have HM := Lib.hid hM
  have HK := Lib.hid hK
  have HREF := Lib.hid H
  rw [← hN] at HH hl
  rw [← hM] at HH
  rw [← hK] at HH hcm
  have HBAD := Lib.hid (show ∀ e w', e = .returned (.int .i64 13) → Chg [] w w' → r.bad parent c.rts = true → PutOut r b S parent p c w e w' from fun e w' h1 h2 h3 => by unfold PutOut; rw [if_pos h3]; exact ⟨h1, h2⟩)
  have HFULL := Lib.hid (show ∀ e w', e = .returned (.int .i64 3) → Chg [] w w' → r.bad parent c.rts = false → M ≤ N → PutOut r b S parent p c w e w' from fun e w' h1 h2 h3 h4 => by unfold PutOut; rw [if_neg (by rw [h3]; simp), if_pos (by rw [← hM, ← hN]; exact h4)]; exact ⟨h1, h2⟩)
  have HOK := Lib.hid (show ∀ e w', e = .returned (.int .i64 0) → RTurns b S (r.putR parent p c) w w' → r.bad parent c.rts = false → ¬ M ≤ N → PutOut r b S parent p c w e w' from fun e w' h1 h2 h3 h4 => by unfold PutOut; rw [if_neg (by rw [h3]; simp), if_neg (by rw [← hM, ← hN]; exact h4)]; exact ⟨h1, h2⟩)
  have hSlt := Lib.hid H.lt
  obtain ⟨ck, ci, cg, cr⟩ := c
  simp only at hcr
  clear H hh hrow hN hM hK hA hcc hc hrt hf hm hgb
  go_enter Try.func41, Try.ntmps41
  go_wp2_with (first
    | (go_at_call 44; refine (H1.out _ HW0.out).mono ?_; rintro e w1 ⟨rfl, rfl⟩)
    | (go_at_call 76; refine (H2.out _).mono ?_; rintro e w2 ⟨rfl, hc2⟩; have HC2 := Lib.hid hc2; clear hc2))
  have HC0 := Lib.hid (HW0.out.then HC2.out)
  go_loopg [12] N (fun gh i wr => ∃ k : Nat, k + gh = N ∧ i = .int .i64 k ∧ Hid (Chg [] w2 wr ∧ ∀ j y, j < k → r.L[j]? = some y → y.id = parent → amongP cr y.cap.rts = true))
  case atStart => exact ⟨0, by omega, rfl, Lib.hid ⟨Chg.refl _ _, fun j y hj => by omega⟩⟩
  case round =>
    obtain ⟨k, hk, rfl, HI⟩ := hrel
    have hcw := HC0.out.then HI.out.1
    obtain ⟨c0, c1, c2, c3, c4, lb, fb, HRow⟩ := HH.out wr hcw
    by_cases hlt : k < N
    · obtain ⟨x, hx⟩ : ∃ x, r.L[k]? = some x := ⟨_, List.getElem?_eq_getElem (by rw [← HN.out]; exact hlt)⟩
      obtain ⟨g, rfl, hgb, hcell⟩ := HROW.out k x hx
      obtain ⟨lg, _, x0, _, _, _, _, _, _, x7⟩ := hcell wr hcw
      have hbx := HBX.out wr (HC2.out.then HI.out.1)
      have y3 := hbx.cell 3
      have lbx := hbx.lt
      simp only [List.getElem?_toArray, List.getElem?_cons_succ, List.getElem?_cons_zero] at y3
      have k0 : (0 : Int) ≤ (k : Int) := by omega
      have k1 : (k : Int) < (N : Int) := by omega
      have HX := Lib.hid hx
      have hxr := HRT.out x (List.mem_of_getElem? hx)
      obtain ⟨xi, xp, xg, xs, ⟨xk, xx, xe, xr⟩⟩ := x
      simp only at x0 x7 hxr
      have HCW := Lib.hid hcw
      have HAM := Lib.hid (fun W => ramong_any hcr hxr W)
      clear hcell hx hbx hcw fb HRow hxr c0 c1 c2 c4
      by_cases e1 : xi = parent
      · have d1 : ((xi : Int) == (parent : Int)) = true := by simp [e1]
        cases ha : amongP cr xr with
        | false =>
          have HB := Lib.hid (bad_at (rts := cr) HX.out e1 ha)
          have hA := fun n => HAM.out (wr.drewN n)
          rw [ha] at hA
          clear e1 ha
          go_wp2
          go_quiet ((go_at_call 19; exact Calls.quiet_of_same (hA _)))
          go_wp2
          go_ret
          exact HBAD.out _ _ rfl (HCW.out.drewN _) HB.out
        | true =>
          have HNX := Lib.hid (show ∀ j y, j < k + 1 → r.L[j]? = some y → y.id = parent → amongP cr y.cap.rts = true from fun j y hj hy hp => by
            by_cases ej : j = k
            · subst ej
              rw [HX.out] at hy
              cases hy
              exact ha
            · exact HI.out.2 j y (by omega) hy hp)
          have hA := fun n => HAM.out (wr.drewN n)
          rw [ha] at hA
          clear e1 ha
          go_wp2
          go_quiet ((go_at_call 19; exact Calls.quiet_of_same (hA _)))
          go_wp2
          go_roundg (N - k - 1)
          case measure => omega
          case rel => exact ⟨k + 1, by omega, by go_num, Lib.hid ⟨HI.out.1.drewN _, HNX.out⟩⟩
      · have d1 : ((xi : Int) == (parent : Int)) = false := by simp; omega
        have HNX := Lib.hid (show ∀ j y, j < k + 1 → r.L[j]? = some y → y.id = parent → amongP cr y.cap.rts = true from fun j y hj hy hp => by
          by_cases ej : j = k
          · subst ej
            rw [HX.out] at hy
            cases hy
            exact absurd hp e1
          · exact HI.out.2 j y (by omega) hy hp)
        clear e1
        go_wp2
        go_quiet (fail)
        go_wp2
        go_roundg (N - k - 1)
        case measure => omega
        case rel => exact ⟨k + 1, by omega, by go_num, Lib.hid ⟨HI.out.1.drewN _, HNX.out⟩⟩
    · obtain rfl : k = N := by omega
      have HNB := Lib.hid (bad_none (rts := cr) (parent := parent) (by rw [← HN.out]; exact HI.out.2))
      have HCW := Lib.hid hcw
      by_cases hfull : M ≤ k
      · have d1 : decide ((M : Int) ≤ (k : Int)) = true := decide_eq_true (by omega)
        have HFL := Lib.hid hfull
        clear hcw fb HRow hfull
        go_wp2
        go_quiet (fail)
        go_wp2
        go_ret
        exact HFULL.out _ _ rfl (HCW.out.drewN _) HNB.out HFL.out
      · have d1 : decide ((M : Int) ≤ (k : Int)) = false := decide_eq_false (by omega)
        have HFL := Lib.hid hfull
        clear hfull
        have f4 := fb 4
        have e1 : IntKind.i64.wrap ((K : Int) + 1) = (K : Int) + 1 := IntWalk.i64_in _ (by omega)
        have HBX3 := Lib.hid (HBX.out wr (HC2.out.then HI.out.1))
        go_wp2
        go_quiet (fail)
        go_wp2
        obtain ⟨W1, hW1⟩ : ∃ W1, W1 = (wr.drewN nq).setCell ⟨b, 4, none⟩ (.int .i64 ((K : Int) + 1)) := ⟨_, rfl⟩
        have HFA := Lib.hid (show ∃ G Z, Blk W1 b 64 #[.int .i64 (G : Nat), .int .i64 (Z : Nat), .int .i64 (M : Nat), .slice A k cc, .int .i64 ((K : Int) + 1)] ∧ G = r.gs ∧ Z = r.slots ∧ Row W1 66 8 (.slice A k cc) k (onCells r.L) ∧ Chg S w W1 ∧ Chg [b] wr W1 from by
          obtain ⟨V, hB, hR, hS⟩ := HREF.out
          have hq := HCW.out.drewN nq
          have hBq := hB.quiet hq
          have hRq := hR.chg hq (fun _ _ h => by cases h)
          have hV : V = .slice A k cc := by
            have h3 := (hB.quiet HCW.out).cell 3
            simp only [List.getElem?_toArray, List.getElem?_cons_succ, List.getElem?_cons_zero] at h3
            rw [c3] at h3
            injection h3 with h3
            exact h3.symm
          subst hV
          have hbV : b ∉ foot (.slice A k cc) := hR.ty hB (by decide)
          refine ⟨r.gs, r.slots, ?_, rfl, rfl, ?_, ?_, ?_⟩
          · have := hBq.set_ 4 (.int .i64 ((K : Int) + 1))
            rw [← hW1] at this
            rw [← HM.out] at this
            exact this
          · have := hRq.far (p := ⟨b, 4, none⟩) hbV (.int .i64 ((K : Int) + 1))
            rw [← hW1, ← HN.out] at this
            exact this
          · rw [hW1]; exact (Chg.any hq).setCell (.inl (by rw [hS]; simp)) _
          · rw [hW1]; exact ((Chg.refl _ _).drewN nq).setCell (.inl (by simp)) _)
        have hbx1 : Blk W1 w.heap.size 39 #[.int .i64 ck, .int .i64 ci, .int .u64 cg, .int .u8 (cr : Nat)] := by
          rw [hW1]
          exact (HBX3.out.drewN nq).far (p := ⟨b, 4, none⟩) (fun e => by have := hSlt.out b HREF.out.mem; have e : w.heap.size = b := e; omega) _
        have HBX1 := Lib.hid hbx1
        rw [← hW1]
        obtain ⟨G, Z, hB1, hG, hZ, hR1, hc1, hc2⟩ := HFA.out
        have KK := Lib.hid (show ∀ W, Chg [] W1 W → W.cell? ⟨b, 3, none⟩ = some (.slice A k cc) ∧ W.cell? ⟨b, 4, none⟩ = some (.int .i64 ((K : Int) + 1)) ∧ W.cell? ⟨w.heap.size, 0, none⟩ = some (.int .i64 ck) ∧ W.cell? ⟨w.heap.size, 1, none⟩ = some (.int .i64 ci) ∧ W.cell? ⟨w.heap.size, 2, none⟩ = some (.int .u64 cg) ∧ W.cell? ⟨w.heap.size, 3, none⟩ = some (.int .u8 (cr : Nat)) ∧ b < W.heap.size ∧ W.frozen? ⟨b, 3, none⟩ = false from fun W hc => ⟨(hB1.quiet hc).cell 3, (hB1.quiet hc).cell 4, (hbx1.quiet hc).cell 0, (hbx1.quiet hc).cell 1, (hbx1.quiet hc).cell 2, (hbx1.quiet hc).cell 3, (hB1.quiet hc).lt, (hB1.quiet hc).frozen 3⟩)
        have HR1 := Lib.hid (show ∀ W, Chg [] W1 W → Row W 66 8 (.slice A k cc) k (onCells r.L) from fun W hc => hR1.chg hc (fun _ _ h => by cases h))
        have HB1 := Lib.hid hB1
        have HGZ := Lib.hid (show G = r.gs ∧ Z = r.slots from ⟨hG, hZ⟩)
        have HC1 := Lib.hid hc1
        have HFIN := Lib.hid (show ∀ w4 A2 cc2, Chg [] W1 w4 → Row w4 66 8 (.slice A2 (k + 1) cc2) (r.L ++ ([⟨K + 1, parent, p.g, p.s, ⟨ck, ci, cg, cr⟩⟩] : List On)).length (onCells (r.L ++ ([⟨K + 1, parent, p.g, p.s, ⟨ck, ci, cg, cr⟩⟩] : List On))) → (∀ q ∈ foot (.slice A2 (k + 1) cc2), W1.heap.size ≤ q) → RTurns b S (r.putR parent p ⟨ck, ci, cg, cr⟩) w (w4.setCell ⟨b, 3, none⟩ (.slice A2 (k + 1) cc2)) from fun w4 A2 cc2 hq hr hf => by
          have hbV : b ∉ foot (.slice A2 (k + 1) cc2) := fun hk => by have := hf b hk; have := hB1.lt; omega
          have hBn := (hB1.quiet hq).set_ 3 (.slice A2 (k + 1) cc2)
          have e : r.putR parent p ⟨ck, ci, cg, cr⟩ = { r with L := r.L ++ ([⟨K + 1, parent, p.g, p.s, ⟨ck, ci, cg, cr⟩⟩] : List On), came := K + 1 } := by unfold Rf.putR; rw [HK.out]
          rw [e]
          refine ⟨b :: foot (.slice A2 (k + 1) cc2), ⟨_, ?_, hr.far hbV _, rfl⟩, fun q hq' => ?_, ?_⟩
          · rw [hG, hZ, HM.out] at hBn
            exact hBn
          · rcases List.mem_cons.1 hq' with rfl | hq'
            · exact .inl HREF.out.mem
            · have := hf q hq'
              have := hc1.size
              exact .inr (by omega)
          · exact (hc1.then hq).setCell (.inl HREF.out.mem) _)
        obtain ⟨q3, q4, q5, q6, q7, q8, q9, q10⟩ := KK.out W1 (Chg.refl _ _)
        clear hW1 hB1 hG hZ hR1 hc1 hc2 hbx1 HFA c0 c1 c2 c3 c4 fb HRow hcw f4 HI
        go_region_law (first
            | (refine step_append_on (xs := []) (l := r.L) (n := k) _ (by rfl) _ _ (by rfl) (by rfl) (by rfl) (Row.nil _ _ _) (by rfl) (HR1.out _ ((Chg.refl _ _).drew : Chg [] W1 _)) HN.out (by rw [← HN.out]; simp; omega) (by rw [← HN.out]; simp) ?_; intro A1 cc1 w3 hr3 hg3 hf3; have hcA : Chg [] W1 w3 := ((Chg.refl _ _).drew : Chg [] W1 _).grown hg3 (fun k hk => by cases hk); have HCA := Lib.hid hcA; have HR3 := Lib.hid (show Row w3 66 8 (.slice A1 k cc1) k (onCells r.L) from by rw [List.nil_append, ← HN.out] at hr3; exact hr3); have HF3 := Lib.hid (show ∀ q ∈ foot (.slice A1 k cc1), W1.heap.size ≤ q from fun q hq => by rcases hf3 q hq with h | h; (cases h); (have h2 := ((Chg.refl _ _).drew : Chg [] W1 _).size; omega)); obtain ⟨m3, m4, m5, m6, m7, m8, m9, m10⟩ := KK.out w3 hcA; clear hcA hr3 hg3 hf3)
            | (refine step_append_on (xs := []) (l := r.L) (n := k) _ (by rfl) _ _ (by rfl) (by rfl) (by rfl) (Row.nil _ _ _) (by rfl) (HR1.out _ ((((Chg.refl [] W1).alloc (.cells #[.int .i64 ((K : Int) + 1), .int .i64 (parent : Nat), .int .i64 p.g, .int .i64 p.s, .int .i64 ck, .int .i64 ci, .int .u64 cg, .int .u8 (cr : Nat)] 66)).drew) : Chg [] W1 _)) HN.out (by rw [← HN.out]; simp; omega) (by rw [← HN.out]; simp) ?_; intro A1 cc1 w3 hr3 hg3 hf3; have hcA : Chg [] W1 w3 := ((((Chg.refl [] W1).alloc (.cells #[.int .i64 ((K : Int) + 1), .int .i64 (parent : Nat), .int .i64 p.g, .int .i64 p.s, .int .i64 ck, .int .i64 ci, .int .u64 cg, .int .u8 (cr : Nat)] 66)).drew) : Chg [] W1 _).grown hg3 (fun k hk => by cases hk); have HCA := Lib.hid hcA; have HR3 := Lib.hid (show Row w3 66 8 (.slice A1 k cc1) k (onCells r.L) from by rw [List.nil_append, ← HN.out] at hr3; exact hr3); have HF3 := Lib.hid (show ∀ q ∈ foot (.slice A1 k cc1), W1.heap.size ≤ q from fun q hq => by rcases hf3 q hq with h | h; (cases h); (have h2 := ((((Chg.refl [] W1).alloc (.cells #[.int .i64 ((K : Int) + 1), .int .i64 (parent : Nat), .int .i64 p.g, .int .i64 p.s, .int .i64 ck, .int .i64 ci, .int .u64 cg, .int .u8 (cr : Nat)] 66)).drew) : Chg [] W1 _).size; omega)); have HONE := Lib.hid (((Blk.new W1 66 #[.int .i64 ((K : Int) + 1), .int .i64 (parent : Nat), .int .i64 p.g, .int .i64 p.s, .int .i64 ck, .int .i64 ci, .int .u64 cg, .int .u8 (cr : Nat)]).drew).same (hg3.block _ (by show W1.heap.size < (W1.alloc _).heap.size; simp) (by simp [Value.ownBlock])) : Blk w3 W1.heap.size 66 #[.int .i64 ((K : Int) + 1), .int .i64 (parent : Nat), .int .i64 p.g, .int .i64 p.s, .int .i64 ck, .int .i64 ci, .int .u64 cg, .int .u8 (cr : Nat)]); obtain ⟨m3, m4, m5, m6, m7, m8, m9, m10⟩ := KK.out w3 hcA; clear hcA hr3 hg3 hf3)
            | (refine step_append_on (xs := r.L) (l := [⟨K + 1, parent, p.g, p.s, ⟨ck, ci, cg, cr⟩⟩]) (n := k + 1) (m := k) (m' := 1) _ (by rfl) _ _ (by rfl) (by rfl) (by rfl) (HR3.out.alloc _) HN.out (Row.oneK (Blk.new w3 66 _)) rfl (by rw [← HN.out]; simp; omega) (by rw [← HN.out]; rfl) ?_; intro A2 cc2 w4 hr4 hg4 hf4; have hch : Chg [] W1 w4 := (HCA.out.alloc (.cells #[.int .i64 ((K : Int) + 1), .int .i64 (parent : Nat), .int .i64 p.g, .int .i64 p.s, .int .i64 ck, .int .i64 ci, .int .u64 cg, .int .u8 (cr : Nat)] 66)).grown hg4 (fun q hq => .inr (HF3.out q (row_mem hq))); have HCB := Lib.hid hch; have HR4 := Lib.hid hr4; have HF4 := Lib.hid (show ∀ q ∈ foot (.slice A2 (k + 1) cc2), W1.heap.size ≤ q from fun q hq => by rcases hf4 q hq with h | h; exact HF3.out q h; (have h2 := (HCA.out.alloc (.cells #[.int .i64 ((K : Int) + 1), .int .i64 (parent : Nat), .int .i64 p.g, .int .i64 p.s, .int .i64 ck, .int .i64 ci, .int .u64 cg, .int .u8 (cr : Nat)] 66)).size; omega)); obtain ⟨n3, n4, n5, n6, n7, n8, n9, n10⟩ := KK.out w4 hch; clear hch hr4 hg4 hf4)
            | (refine step_append_on (xs := r.L) (l := [⟨K + 1, parent, p.g, p.s, ⟨ck, ci, cg, cr⟩⟩]) (n := k + 1) (m := k) (m' := 1) _ (by rfl) _ _ (by rfl) (by rfl) (by rfl) (HR3.out) HN.out (Row.oneK HONE.out) rfl (by rw [← HN.out]; simp; omega) (by rw [← HN.out]; rfl) ?_; intro A2 cc2 w4 hr4 hg4 hf4; have hch : Chg [] W1 w4 := (HCA.out).grown hg4 (fun q hq => .inr (HF3.out q (row_mem hq))); have HCB := Lib.hid hch; have HR4 := Lib.hid hr4; have HF4 := Lib.hid (show ∀ q ∈ foot (.slice A2 (k + 1) cc2), W1.heap.size ≤ q from fun q hq => by rcases hf4 q hq with h | h; exact HF3.out q h; (have h2 := (HCA.out).size; omega)); obtain ⟨n3, n4, n5, n6, n7, n8, n9, n10⟩ := KK.out w4 hch; clear hch hr4 hg4 hf4))
        all_goals
          go_wp2
          go_ret
          exact HOK.out _ _ rfl (HFIN.out _ _ _ HCB.out HR4.out HF4.out) HNB.out HFL.out
set_option maxHeartbeats 1600000 in
theorem put_stop (H : RefAt w b S r) (hl : r.L.length ≤ 10000) (parent : Nat) (p : Pt) {c : Cp} (hc : c.ok) (hne : r.freeE p ≠ 0 ∨ mayB c = false) :
    Calls Try.prog 41 #[ptr b, .int .i64 (parent : Nat), .int .i64 p.g, .int .i64 p.s, c.val] w fun e w' => e = .returned (.int .i64 (if r.freeE p = 0 then 2 else r.freeE p)) ∧ Chg [] w w' := by
  have H1 := Lib.hid (fun W (hq : Chg [] w W) => rfree_is (H.quiet hq) (by omega) p)
  have H2 := Lib.hid (fun W => rmay_any hc W)
  have HW0 := Lib.hid ((Chg.refl [] w).alloc (.cells c.arr 39))
  by_cases h0 : r.freeE p = 0
  · have hm : mayB c = false := hne.resolve_left (fun h => h h0)
    rw [h0] at H1
    rw [hm] at H2
    rw [if_pos h0]
    obtain ⟨ck, ci, cg, cr⟩ := c
    clear H hl hc hne h0 hm
    go_enter Try.func41, Try.ntmps41
    go_wp2_with (first
      | (go_at_call 44; refine (H1.out _ HW0.out).mono ?_; rintro e w1 ⟨rfl, rfl⟩)
      | (go_at_call 76; refine (H2.out _).mono ?_; rintro e w2 ⟨rfl, hc2⟩; have HC2 := Lib.hid hc2; clear hc2))
    go_ret
    exact ⟨rfl, HW0.out.then HC2.out⟩
  · rw [if_neg h0]
    obtain ⟨z, hz⟩ : ∃ z, z = r.freeE p := ⟨_, rfl⟩
    rw [← hz] at h0 H1 ⊢
    have hb : (z != 0) = true := by simpa using h0
    obtain ⟨ck, ci, cg, cr⟩ := c
    clear H hl hc hne h0 hz
    go_enter Try.func41, Try.ntmps41
    go_wp2_with (go_at_call 44; refine (H1.out _ HW0.out).mono ?_; rintro e w1 ⟨rfl, rfl⟩)
    go_ret
    exact ⟨rfl, HW0.out⟩
theorem rput_any (H : RefAt w b S r) (hl : r.L.length ≤ 10000) (hcm : r.came ≤ 1000000) (parent : Nat) (p : Pt) {c : Cp} (hc : c.ok) (hrt : ∀ x ∈ r.L, x.cap.rts < 256) :
    Calls Try.prog 41 #[ptr b, .int .i64 (parent : Nat), .int .i64 p.g, .int .i64 p.s, c.val] w fun e w' => e = .returned (.int .i64 (r.putE parent p c)) ∧ RTurns b S (r.put parent p c) w w' := by
  unfold Rf.put Rf.putE
  by_cases hf : r.freeE p = 0
  · cases hm : mayB c with
    | false =>
      refine (put_stop H hl parent p hc (.inr hm)).mono fun e w' hh => ?_
      rw [if_pos hf, if_neg (by simp)]
      rw [if_pos hf] at hh
      rw [if_neg (by omega)]
      exact ⟨hh.1, RTurns.refl H hh.2⟩
    | true =>
      refine (put_go H hl hcm parent p hc hrt hf hm).mono fun e w' hh => ?_
      unfold PutOut at hh
      rw [if_pos hf, if_pos rfl]
      by_cases hb : r.bad parent c.rts = true
      · rw [if_pos hb] at hh ⊢
        rw [if_neg (by omega)]
        exact ⟨hh.1, RTurns.refl H hh.2⟩
      · rw [if_neg hb] at hh ⊢
        by_cases hn : r.nodes ≤ r.L.length
        · rw [if_pos hn] at hh ⊢
          rw [if_neg (by omega)]
          exact ⟨hh.1, RTurns.refl H hh.2⟩
        · rw [if_neg hn] at hh ⊢
          rw [if_pos rfl]
          exact hh
  · refine (put_stop H hl parent p hc (.inl hf)).mono fun e w' hh => ?_
    rw [if_neg hf] at hh ⊢
    rw [if_neg hf]
    exact ⟨hh.1, RTurns.refl H hh.2⟩
end
end Go.Proofs
end
