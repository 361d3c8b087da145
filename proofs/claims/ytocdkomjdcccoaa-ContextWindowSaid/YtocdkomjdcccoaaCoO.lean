import Derived.Test.YtocdkomjdcccoaaCoN
namespace Go.Proofs
open Go.RowKit
set_option linter.unusedVariables false
theorem ptr_facts {w W w2 : World} {n : Nat} {v : Value} (hn : n = w.heap.size) (hW : Chg [] (w.alloc (.cells #[v] 25)) W) (hc : Chg [] W w2) : Blk w2 n 25 #[v] := by
  subst hn
  exact ((Blk.new w 25 #[v]).chg hW (by simp)).chg hc (by simp)
theorem ref_blk {w W w2 : World} {i q : Int} {n : Nat} (hn : n = w.heap.size) (hW : Chg [] (w.alloc (obRef i q)) W) (hc : Chg [] W w2) : Blk w2 n 30 #[.int .i64 i, .int .u64 q] := by
  subst hn
  exact ((Blk.new w 30 #[.int .i64 i, .int .u64 q]).chg hW (by simp)).chg hc (by simp)
def bindE (t : Tab Cx) (i q : Int) : Int := if t.has i q then 0 else 11
theorem bind_refused {w : World} {c n m : Nat} {S : List Nat} {t : Tab Cx} {most i q : Int} (h : CtxAt w c S t most) (hcl : Clo w (cloGone n m) (!t.has i q)) (o : Obj)
    (ho : o = .cells #[.int .i64 1, .func (.func 15) #[ptr c] #[], .int .i64 11, cloGone n m] 55) :
    Calls Try.prog 14 #[.slice (some ⟨w.heap.size, 0, none⟩) 2 2] (w.alloc o) fun e w' => e = .returned (.int .i64 (bindE t i q)) ∧ Chg [] (w.alloc o) w' := by
  subst ho
  have hc := (Chg.refl [] w).alloc (.cells #[.int .i64 1, .func (.func 15) #[ptr c] #[], .int .i64 11, cloGone n m] 55)
  have hE : bindE t i q = firstE [(1, .func (.func 15) #[ptr c] #[], false), (11, cloGone n m, !t.has i q)] := by
    unfold bindE; cases t.has i q <;> simp [firstE]
  rw [hE]
  refine refused_any (Blk.new _ 55 _) rfl (by omega) (clos_all ?_)
  simp only [List.forall_mem_cons]
  exact ⟨clo_none (h.quiet hc), hcl.quiet hc, fun _ h => by cases h⟩
set_option maxHeartbeats 1600000 in
set_option maxRecDepth 100000 in
theorem Bind_any {w : World} {c : Nat} {S : List Nat} {t : Tab Cx} {most : Int} (h : CtxAt w c S t most) {i q : Int} (i0 : -9223372036854775808 ≤ i) (i1 : i ≤ 9223372036854775807)
    (n0 : 0 ≤ (t.at_ i q).n) (n1 : (t.at_ i q).n ≤ 1000000) :
    Calls Try.prog 10 #[ptr c, .agg #[.int .i64 i, .int .u64 q]] w fun e w' => e = .returned (.int .i64 (bindE t i q)) ∧ CtxTurns c S (if t.has i q then t.thing i.toNat { t.at_ i q with n := (t.at_ i q).n + 1 } else t) most w w' := by
  have HG := Lib.hid (fun W (hW : Chg [] w W) => gone_any (h.quiet hW) i0 i1 (q := q))
  have HR := Lib.hid (fun W (hW : Chg [] w W) n m => bind_refused (h.quiet hW) (n := n) (m := m) (i := i) (q := q))
  have HBI := Lib.hid (fun W (hW : Chg [] w W) hq => bind_any (h.quiet hW) i0 i1 (q := q) (more := 1) hq (by omega) (by omega))
  have HH := Lib.hid h
  cases hq : t.has i q with
  | false =>
    have he : bindE t i q = 11 := by unfold bindE; rw [hq]; rfl
    rw [he] at HR ⊢
    clear h he hq n0 n1
    go_enter Try.func10, Try.ntmps10
    go_wp2_with (first
      | (go_at_call 27; refine (HG.out _ ((Chg.refl _ _).alloc _)).mono ?_; rintro e w2 ⟨⟨n, m, rfl, hcl⟩, hc⟩; have HC := Lib.hid (((Chg.refl [] w).alloc _).then hc); have HCL := Lib.hid hcl; clear hc hcl)
      | (go_at_call 14; refine (HR.out _ HC.out _ _ HCL.out _ rfl).mono ?_; rintro e w3 ⟨rfl, hc⟩; have HC3 := Lib.hid ((HC.out.alloc _).then hc); clear hc))
    go_ret
    exact ⟨rfl, CtxTurns.refl HH.out HC3.out⟩
  | true =>
    have he : bindE t i q = 0 := by unfold bindE; rw [hq]; rfl
    rw [he] at HR ⊢
    have HQ := Lib.hid hq
    clear h he hq n0 n1
    go_enter Try.func10, Try.ntmps10
    go_wp2_with (first
      | (go_at_call 27; refine (HG.out _ ((Chg.refl _ _).alloc _)).mono ?_; rintro e w2 ⟨⟨n, m, rfl, hcl⟩, hc⟩; have HB := Lib.hid (ref_blk (w := w) rfl (Chg.refl [] _) hc); have HC := Lib.hid (((Chg.refl [] w).alloc _).then hc); have HCL := Lib.hid hcl; clear hc hcl)
      | (go_at_call 14; refine (HR.out _ HC.out _ _ HCL.out _ rfl).mono ?_; rintro e w3 ⟨rfl, hc⟩; have HC3 := Lib.hid ((HC.out.alloc _).then hc); have hb := (HB.out.alloc _).chg hc (by simp); have k0 := hb.cell 0; have k1 := hb.cell 1; clear hc hb)
      | (go_at_call 31; refine (HBI.out _ HC3.out HQ.out).mono ?_; rintro e w4 ⟨rfl, hT⟩; have HT := Lib.hid (hT.earlier HC3.out); clear hT))
    go_ret
    exact ⟨rfl, HT.out⟩
def unbindE (t : Tab Cx) (i q : Int) : Int := if t.has i q then (if ((t.at_ i q).n == 0) then 5 else 0) else 11
def dropE (t : Tab Cx) (i q : Int) : Int := if t.has i q then (if decide (0 < (t.at_ i q).n) then 14 else 0) else 11
end Go.Proofs
