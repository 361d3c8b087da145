import Derived.Test.YtocdkomjdcccoaaCoM
namespace Go.Proofs
open Go.RowKit
set_option linter.unusedVariables false
set_option linter.unusedSimpArgs false
theorem clos_all {w : World} {L : Rfs3} (h : ∀ x ∈ L, Clo w x.2.1 x.2.2) : ∀ (k : Nat) (x : Int × Value × Bool), L[k]? = some x → (∀ (j : Nat) (y : Int × Value × Bool), j < k → L[j]? = some y → y.2.2 = false) → Clo w x.2.1 x.2.2 :=
  fun k x hx _ => h x (List.mem_of_getElem? hx)
theorem CtxAt.box {w : World} {c : Nat} {S : List Nat} {t : Tab Cx} {most : Int} (h : CtxAt w c S t most) : ∀ k, w.heap.size ≤ k → k ∉ S := fun k hk hm => by have := h.lt k (List.mem_cons_of_mem _ hm); omega
theorem CtxAt.cS {w : World} {c : Nat} {S : List Nat} {t : Tab Cx} {most : Int} (h : CtxAt w c S t most) : c ∉ S := by obtain ⟨g, h1, h2, h3, h4⟩ := h; exact h2.not_ctx h1
/-- The table's Put, of contexts. -/
theorem put_ctx {w : World} {c : Nat} {S : List Nat} {t : Tab Cx} {most : Int} (h : CtxAt w c S t most) (hf : t.frees ≠ 0) :
    ∃ g, Blk w c 52 #[.pointer (some ⟨g, 0, none⟩), .int .i64 most] ∧ ∀ W, Chg [] w W → ∀ (b p n : Int) (a : Option Addr) (m cc : Nat) (l : List Rf), Rd W (.slice a m cc) l →
      Calls Try.prog 19 #[.pointer (some ⟨g, 0, none⟩), .agg #[.int .u64 b, .int .u64 p, .slice a m cc, .int .i64 n]] W fun e w' => e = .returned (.tuple #[.agg #[.int .i64 (t.takeAt : Nat), .int .u64 (t.genAt t.takeAt)], .int .i64 0]) ∧ Chg S W w' ∧ CtxTurns c S (t.put cx0 ⟨b, p, a, m, cc, n, l⟩) most w w' := by
  obtain ⟨g, hB, hT, hG, hW⟩ := h
  refine ⟨g, hB, fun W hc b p n a m cc l hl => ?_⟩
  refine (put_ok_C (hT.quiet hc) hW hf ⟨b, p, a, m, cc, n, l⟩).mono ?_
  rintro e w' ⟨rfl, hT'⟩
  obtain ⟨S', t1, t2, t3⟩ := id hT'
  exact ⟨rfl, t3, (CtxTurns.of (hB.chg hc (by simp)) (hT.quiet hc) hT' ((hG.quiet hc).put hW hf hl) (hW.put hf _)).earlier hc⟩
theorem ref_facts4 {w W w2 : World} {i q : Int} {n : Nat} (hn : n = w.heap.size) (hW : Chg [] (w.alloc (obRef i q)) W) (hc : Chg [] W w2) :
    n < w2.heap.size ∧ w2.cell? ⟨n, 0, none⟩ = some (.int .i64 i) ∧ w2.cell? ⟨n, 1, none⟩ = some (.int .u64 q) ∧ ∀ o, w2.frozen? ⟨n, o, none⟩ = false := by
  subst hn
  have hB := ((Blk.new w 30 #[.int .i64 i, .int .u64 q]).chg hW (by simp)).chg hc (by simp)
  exact ⟨hB.lt, hB.cell 0, hB.cell 1, hB.frozen⟩
theorem TabAt.not_box {w : World} {g b : Nat} {S : List Nat} {t : Tab Cx} {e : TypeId} {cs : Array Value} (h : TabAt w g S t) (hB : Blk w b e cs) (h1 : 74 ≠ e) (h2 : 79 ≠ e) (h3 : 3 ≠ e) : b ∉ S := by
  obtain ⟨VS, VF, hB', hS, hF, rfl⟩ := h
  simp only [List.mem_cons, List.mem_append, not_or]
  exact ⟨fun e => Blk.ty hB' hB h1 e.symm, hS.ty hB h2, hF.ty hB h3⟩
/-- A box of the caller's own is written to. -/
theorem CtxTurns.box {w w3 w4 : World} {c b : Nat} {S : List Nat} {t : Tab Cx} {most : Int} {cs : Array Value} (h : CtxTurns c S t most w w3) (hB : Blk w3 b 30 cs) (hb : w.heap.size ≤ b) (hc : Chg [b] w3 w4) : CtxTurns c S t most w w4 := by
  obtain ⟨S', ⟨g, h1, h2, h3, h4⟩, k2, k3⟩ := h
  have hn := h2.not_box hB (by decide) (by decide) (by decide)
  refine ⟨S', CtxAt.chg ⟨g, h1, h2, h3, h4⟩ hc (by simpa using fun e => Blk.ty h1 hB (by decide) e) (fun k hk => by simp; rintro rfl; exact hn hk) (Off.cons hB (by decide) (Off.nil _)), k2, k3.trans hc (fun k hk => by simp at hk; subst hk; exact .inr hb)⟩
def makeE (t : Tab Cx) (b p now : Int) : Int := if badMake b p now then 2 else if t.frees == 0 then 3 else 0
theorem makeE_first (t : Tab Cx) (b p now : Int) (f g h : Value) : firstE [(1, f, false), (2, g, badMake b p now), (3, h, t.frees == 0)] = makeE t b p now := by
  unfold makeE
  simp [firstE]
theorem u64_facts {w W w2 : World} {n : Nat} {x : Int} (hn : n = w.heap.size) (hW : Chg [] (w.alloc (.cells #[.int .u64 x] 22)) W) (hc : Chg [] W w2) :
    n < w2.heap.size ∧ w2.cell? ⟨n, 0, none⟩ = some (.int .u64 x) := by
  subst hn
  have hB := ((Blk.new w 22 #[.int .u64 x]).chg hW (by simp)).chg hc (by simp)
  exact ⟨hB.lt, hB.cell 0⟩
abbrev obU (x : Int) : Obj := .cells #[.int .u64 x] 22
/-- The world in which Make asks by what it is refused. -/
abbrev wMake (w : World) (b p now : Int) : World := (((w.alloc (obU b)).alloc (obU p)).alloc (obU now)).alloc (obRef 0 0)
theorem make_refused {w : World} {c : Nat} {S : List Nat} {t : Tab Cx} {most : Int} (h : CtxAt w c S t most) (b p now : Int) (o : Obj)
    (ho : o = .cells #[.int .i64 1, .func (.func 15) #[ptr c] #[], .int .i64 2, .func (.func 16) #[] #[ptr w.heap.size, ptr (w.heap.size + 1), ptr (w.heap.size + 1 + 1)], .int .i64 3, .func (.func 18) #[ptr c] #[]] 55) :
    Calls Try.prog 14 #[.slice (some ⟨w.heap.size + 1 + 1 + 1 + 1, 0, none⟩) 3 3] ((wMake w b p now).alloc o) fun e w' => e = .returned (.int .i64 (makeE t b p now)) ∧ Chg [] ((wMake w b p now).alloc o) w' := by
  subst ho
  have hc : Chg [] w ((wMake w b p now).alloc (.cells #[.int .i64 1, .func (.func 15) #[ptr c] #[], .int .i64 2, .func (.func 16) #[] #[ptr w.heap.size, ptr (w.heap.size + 1), ptr (w.heap.size + 1 + 1)], .int .i64 3, .func (.func 18) #[ptr c] #[]] 55)) := (((((Chg.refl _ _).alloc _).alloc _).alloc _).alloc _).alloc _
  have h' := h.quiet hc
  have b1 := ((((Blk.new w 22 #[.int .u64 b]).alloc (obU p)).alloc (obU now)).alloc (obRef 0 0)).alloc (.cells #[.int .i64 1, .func (.func 15) #[ptr c] #[], .int .i64 2, .func (.func 16) #[] #[ptr w.heap.size, ptr (w.heap.size + 1), ptr (w.heap.size + 1 + 1)], .int .i64 3, .func (.func 18) #[ptr c] #[]] 55)
  have b2 := (((Blk.at (w.alloc (obU b)) 22 #[.int .u64 p] (n := w.heap.size + 1) (by simp)).alloc (obU now)).alloc (obRef 0 0)).alloc (.cells #[.int .i64 1, .func (.func 15) #[ptr c] #[], .int .i64 2, .func (.func 16) #[] #[ptr w.heap.size, ptr (w.heap.size + 1), ptr (w.heap.size + 1 + 1)], .int .i64 3, .func (.func 18) #[ptr c] #[]] 55)
  have b3 := ((Blk.at ((w.alloc (obU b)).alloc (obU p)) 22 #[.int .u64 now] (n := w.heap.size + 1 + 1) (by simp)).alloc (obRef 0 0)).alloc (.cells #[.int .i64 1, .func (.func 15) #[ptr c] #[], .int .i64 2, .func (.func 16) #[] #[ptr w.heap.size, ptr (w.heap.size + 1), ptr (w.heap.size + 1 + 1)], .int .i64 3, .func (.func 18) #[ptr c] #[]] 55)
  rw [← makeE_first t b p now (.func (.func 15) #[ptr c] #[]) (.func (.func 16) #[] #[ptr w.heap.size, ptr (w.heap.size + 1), ptr (w.heap.size + 1 + 1)]) (.func (.func 18) #[ptr c] #[])]
  refine refused_any (Blk.at _ 55 _ (by simp)) rfl (by omega) (clos_all ?_)
  simp only [List.forall_mem_cons]
  exact ⟨clo_none h', clo_make b1 b2 b3, clo_full h', fun _ h => by cases h⟩
set_option maxHeartbeats 1600000 in
set_option maxRecDepth 100000 in
theorem make_no {w : World} {c : Nat} {S : List Nat} {t : Tab Cx} {most : Int} (h : CtxAt w c S t most) (b p now : Int) (he : (makeE t b p now != 0) = true) :
    Calls Try.prog 6 #[ptr c, .int .u64 b, .int .u64 p, .int .u64 now] w fun e w' => e = .returned (.tuple #[.agg #[.int .i64 0, .int .u64 0], .int .i64 (makeE t b p now)]) ∧ Chg [] w w' := by
  have HM := Lib.hid (make_refused h b p now)
  obtain ⟨E, hE⟩ : ∃ E, E = makeE t b p now := ⟨_, rfl⟩
  rw [← hE] at HM he ⊢
  clear hE h
  go_enter Try.func6, Try.ntmps6
  go_wp2_with (go_at_call 14; refine (HM.out _ rfl).mono ?_; rintro e w1 ⟨rfl, hc⟩; obtain ⟨hz, b0, b1, bf⟩ := ref_facts4 (w := ((w.alloc (obU b)).alloc (obU p)).alloc (obU now)) (n := w.heap.size + 1 + 1 + 1) (by simp) ((Chg.refl [] _).alloc _) hc; have HC := Lib.hid ((((((Chg.refl [] w).alloc _).alloc _).alloc _).alloc _).alloc _ |>.then hc); clear hc)
  refine bodyPost_ret (v := .tuple #[.agg #[.int .i64 0, .int .u64 0], .int .i64 E]) ?_ rfl ⟨rfl, by repeat' (first | with_reducible exact HC.out | with_reducible apply Chg.alloc | with_reducible apply Chg.setCell | (with_reducible refine Or.inr ?_; dsimp only; omega))⟩
  simp [results, Try.results6, go_sem, hz, b0, b1]
set_option maxHeartbeats 3200000 in
set_option maxRecDepth 100000 in
theorem make_yes {w : World} {c : Nat} {S : List Nat} {t : Tab Cx} {most : Int} (h : CtxAt w c S t most) (b p now : Int) (he : makeE t b p now = 0) :
    Calls Try.prog 6 #[ptr c, .int .u64 b, .int .u64 p, .int .u64 now] w fun e w' => ∃ A cc, e = .returned (.tuple #[.agg #[.int .i64 (t.takeAt : Nat), .int .u64 (t.genAt t.takeAt)], .int .i64 0]) ∧ CtxTurns c S (t.put cx0 ⟨b, p, A, 1, cc, 0, [(b, now)]⟩) most w w' := by
  have hb : b ≠ 0 := by
    intro e; subst e
    unfold makeE badMake at he
    simp at he
  have hf : t.frees ≠ 0 := by
    intro e
    unfold makeE at he
    rw [e] at he
    split at he <;> simp at he
  have HM := Lib.hid (make_refused h b p now)
  rw [he] at HM
  obtain ⟨g, hB, hput⟩ := put_ctx h hf
  have HP := Lib.hid hput
  have HF := Lib.hid (fun W => fresh_any W b p now hb)
  have HBT := Lib.hid hB.tell
  have HX := Lib.hid h.box
  have HCS := Lib.hid h.cS
  have lc := hB.lt
  obtain ⟨i, hi⟩ : ∃ i, i = ((t.takeAt : Nat) : Int) := ⟨_, rfl⟩
  obtain ⟨q, hq⟩ : ∃ q, q = t.genAt t.takeAt := ⟨_, rfl⟩
  rw [← hi, ← hq] at HP ⊢
  clear h hput hB hf hb he hi hq
  go_enter Try.func6, Try.ntmps6
  go_wp2_with (go_at_call 14; refine (HM.out _ rfl).mono ?_; rintro e w1 ⟨rfl, hc⟩; obtain ⟨hz, b0, b1, bf⟩ := ref_facts4 (w := ((w.alloc (obU b)).alloc (obU p)).alloc (obU now)) (n := w.heap.size + 1 + 1 + 1) (by simp) ((Chg.refl [] _).alloc _) hc; obtain ⟨_, u0⟩ := u64_facts (w := w) (x := b) rfl ((((Chg.refl [] _).alloc _).alloc _).alloc _ |>.alloc _) hc; obtain ⟨_, u1⟩ := u64_facts (w := w.alloc (obU b)) (x := p) (n := w.heap.size + 1) (by simp) (((Chg.refl [] _).alloc _).alloc _ |>.alloc _) hc; obtain ⟨_, u2⟩ := u64_facts (w := (w.alloc (obU b)).alloc (obU p)) (x := now) (n := w.heap.size + 1 + 1) (by simp) (((Chg.refl [] _).alloc _).alloc _) hc; have HC := Lib.hid ((((((Chg.refl [] w).alloc _).alloc _).alloc _).alloc _).alloc _ |>.then hc); have HBB := Lib.hid (((Blk.at (((w.alloc (obU b)).alloc (obU p)).alloc (obU now)) 30 #[.int .i64 0, .int .u64 0] (n := w.heap.size + 1 + 1 + 1) (by simp)).alloc _).chg hc (by simp)); have HC1 := Lib.hid hc; have c0 := (HBT.out _ HC.out).1 0; clear hc)
  have HK := Lib.hid (fun W (hW : Chg [] w1 W) => ((⟨(HBT.out _ (HC.out.then hW)).1 0, (hW.cell (p := ⟨w.heap.size, 0, none⟩) (by dsimp only; omega) (by simp)).trans u0, (hW.cell (p := ⟨w.heap.size + 1, 0, none⟩) (by dsimp only; omega) (by simp)).trans u1, (hW.cell (p := ⟨w.heap.size + 1 + 1, 0, none⟩) (by dsimp only; omega) (by simp)).trans u2⟩ : W.cell? ⟨c, 0, none⟩ = some (.pointer (some ⟨g, 0, none⟩)) ∧ W.cell? ⟨w.heap.size, 0, none⟩ = some (.int .u64 b) ∧ W.cell? ⟨w.heap.size + 1, 0, none⟩ = some (.int .u64 p) ∧ W.cell? ⟨w.heap.size + 1 + 1, 0, none⟩ = some (.int .u64 now))))
  have HL := Lib.hid (fun W W' (hW : Chg [] w1 W) (hS : Chg S W W') => ((fun (k : Nat) (hk : k < w1.heap.size) (hkS : k ∉ S) (o : Nat) => (hS.cell (p := ⟨k, o, none⟩) (by have := hW.size; dsimp only; omega) hkS).trans (hW.cell (p := ⟨k, o, none⟩) hk (by simp))) : ∀ k, k < w1.heap.size → k ∉ S → ∀ o, W'.cell? ⟨k, o, none⟩ = w1.cell? ⟨k, o, none⟩))
  have hn1 : ¬ (w.heap.size + 1 + 1 + 1 = c) := by omega
  have hn2 : ¬ (w.heap.size + 1 + 1 + 1 = w.heap.size) := by omega
  have hn3 : ¬ (w.heap.size + 1 + 1 = w.heap.size) := by omega
  have hn4 : ¬ (w.heap.size + 1 + 1 + 1 = w.heap.size + 1 + 1) := by omega
  go_region_held3 (fun w' => w'.cell? ⟨c, 0, none⟩ = some (.pointer (some ⟨g, 0, none⟩)) ∧ w'.cell? ⟨w.heap.size, 0, none⟩ = some (.int .u64 b) ∧ w'.cell? ⟨w.heap.size + 1, 0, none⟩ = some (.int .u64 p) ∧ w'.cell? ⟨w.heap.size + 1 + 1, 0, none⟩ = some (.int .u64 now))
    (first | go_keep)
    (first
      | (go_at_call 20; refine (HF.out _).mono ?_; rintro e w2 ⟨A2, c2, rfl, hR, hc⟩; have HC2 := Lib.hid (((Chg.refl [] w1).drew).then hc); have HR2 := Lib.hid hR; obtain ⟨k0, k1, k2, k3⟩ := HK.out _ HC2.out; clear hc hR)
      | (go_at_call 19; refine (HP.out _ (HC.out.then HC2.out) _ _ _ _ _ _ _ HR2.out).mono ?_; rintro e w3 ⟨rfl, hs, hT⟩; have HT := Lib.hid hT; have HS3 := Lib.hid hs; have hcell := HL.out _ _ HC2.out HS3.out; have j0 := (hcell c (by omega) HCS.out 0).trans c0; have j1 := (hcell w.heap.size (by omega) (HX.out _ (by omega)) 0).trans u0; have j2 := (hcell (w.heap.size + 1) (by omega) (HX.out _ (by omega)) 0).trans u1; have j3 := (hcell (w.heap.size + 1 + 1) (by omega) (HX.out _ (by omega)) 0).trans u2; have j4 := (hcell (w.heap.size + 1 + 1 + 1) (by omega) (HX.out _ (by omega)) 0).trans b0; have j5 := (hcell (w.heap.size + 1 + 1 + 1) (by omega) (HX.out _ (by omega)) 1).trans b1; have HB6 := Lib.hid ((HBB.out.chg HC2.out (by simp)).chg HS3.out (HX.out _ (by omega))); have j6 := HB6.out.frozen; clear hs hT hcell))
  all_goals
    go_wp2
    refine bodyPost_ret (v := .tuple #[.agg #[.int .i64 i, .int .u64 q], .int .i64 0]) ?_ rfl ⟨A2, c2, rfl, ?_⟩
    · simp [results, Try.results6, go_sem, j4, j5]
    · exact HT.out.box HB6.out (by omega) (((Chg.refl _ _).setCell (p := ⟨w.heap.size + 1 + 1 + 1, 0, none⟩) (.inl (by simp)) _).setCell (p := ⟨w.heap.size + 1 + 1 + 1, 1, none⟩) (.inl (by simp)) _)
end Go.Proofs
