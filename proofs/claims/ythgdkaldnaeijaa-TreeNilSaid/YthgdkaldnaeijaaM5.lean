import Derived.Test.YthgdkaldnaeijaaM4
section
namespace Go.Proofs
open Go.RowKit
set_option linter.unusedVariables false
set_option linter.unusedSimpArgs false

section
variable {w : World} {h : Nat} {S : List Nat} {c : Tr} {t : Fo}
theorem Taken.call (H : TreeAt w h S c) (hs : Sim c t) {a : Nat} {r : List Nat} (hf : t.free = a :: r) :
    ∃ c1, Taken c c1 a t r ∧ Calls Try.prog 47 #[ptr h] w fun e w' => e = .returned (.int .i64 (a : Nat)) ∧ Turns h S c1 w w' := by
  obtain ⟨c1, hk⟩ := hs.took hf
  refine ⟨c1, hk, ?_⟩
  have hc := hs.count
  have hn := hs.lenN
  rcases hk.took with ⟨F', h1, rfl⟩ | ⟨h1, h2, rfl⟩
  · exact take_some H h1 (by omega)
  · rw [h2]
    have := hs.big
    exact take_new H h1 (by have h3 := hk.len; simp at h3; omega)
def ndA (p : Int) : Nd := ⟨true, p, -1, 0, 0⟩
theorem Sim.hd2 (hs : Sim c t) {a : Nat} {r : List Nat} (hf : t.free = a :: r) {c1 : Tr} (hk : Taken c c1 a t r) {o : Option Nat} (ho : ∀ p, o = some p → t.there p = true) :
    (c1.upd a (fun _ => ndA (oI o))).hd (oI o) = hdI (t.row o) := by
  have hna : t.there a = false := ((hs.wf.frees.2 a).1 (by rw [hf]; simp)).2
  unfold Tr.hd
  cases o with
  | none =>
    rw [if_pos (show oI none = -1 from rfl), upd_root, hk.root]
    exact hs.root
  | some p =>
    rw [if_neg (show ¬ (oI (some p) = -1) by show ¬ (((p : Nat) : Int) = -1); omega)]
    show ((c1.upd a (fun _ => ndA (oI (some p)))).nd (p : Nat)).child = _
    have hpa : p ≠ a := fun e => by rw [← e, ho p rfl] at hna; cases hna
    rw [nd_upd hk.lt, if_neg hpa, hk.nd]
    exact (hs.node p (ho p rfl)).2.2.2
/-- A node that comes, written. -/
abbrev putA (w : World) (g o : Nat) (p : Int) : World := ((((w.setCell ⟨g, o, none⟩ (.bool true)).setCell ⟨g, o + 1, none⟩ (.int .i64 p)).setCell ⟨g, o + 2, none⟩ (.int .i64 (-1))).setCell ⟨g, o + 3, none⟩ (.int .i64 0)).setCell ⟨g, o + 4, none⟩ (.int .i64 0)
theorem adds_of {w1 : World} {c1 : Tr} {a : Nat} (hT : Turns h S c1 w w1) (ha : a < c1.N.length) (p : Int) :
    ∃ g cN, w1.cell? ⟨h, 2, none⟩ = some (.slice (some ⟨g, 0, none⟩) c1.N.length cN) ∧ h < w1.heap.size ∧ g < w1.heap.size ∧ (∀ j, w1.frozen? ⟨g, j, none⟩ = false) ∧ (∃ u0 u1 u2 u3 u4, w1.cell? ⟨g, a * 5, none⟩ = some u0 ∧ w1.cell? ⟨g, a * 5 + 1, none⟩ = some u1 ∧ w1.cell? ⟨g, a * 5 + 2, none⟩ = some u2 ∧ w1.cell? ⟨g, a * 5 + 3, none⟩ = some u3 ∧ w1.cell? ⟨g, a * 5 + 4, none⟩ = some u4) ∧
    (∃ S1, TreeAt (putA w1 g (a * 5) p) h S1 (c1.upd a (fun _ => ndA p)) ∧ (∀ k ∈ S1, k ∈ S ∨ w.heap.size ≤ k) ∧ Chg S w (putA w1 g (a * 5) p)) := by
  obtain ⟨S1, H1, k1, k2⟩ := hT
  have hd := nd_get ha
  obtain ⟨A, cN, B, cF, _, _, _, _, hh, hnd, _⟩ := H1.head
  obtain ⟨g, rfl, hne, hW⟩ := hnd a _ hd
  obtain ⟨_, _, c2, _, lt, _⟩ := hh w1 (Chg.refl _ _)
  obtain ⟨lg, fz, b0, b1, b2, b3, b4⟩ := hW w1 (Chg.refl _ _)
  obtain ⟨t1, t2⟩ := H1.node5 (ndA p) c2 ha
  refine ⟨g, cN, c2, lt, lg, fz, ⟨_, _, _, _, _, b0, b1, b2, b3, b4⟩, S1, ?_, k1, k2.trans t2 k1⟩
  rw [upd_some hd]
  exact t1
theorem add_in {c1 : Tr} {a : Nat} {p : Int} (hp : In c1 p) : In (c1.upd a (fun _ => ndA p)) p := hp.mono (upd_len ..)
/-- -1, if it is below 0. -/
def cut0 (p : Int) : Int := if p < -1 then -1 else p
def optI (p : Int) : Option Nat := if p < 0 then none else some p.toNat
theorem cut0_eq (p : Int) : cut0 p = oI (optI p) := by
  unfold cut0 optI
  by_cases h : p < 0
  · rw [if_pos h]
    show _ = (-1 : Int)
    split <;> omega
  · rw [if_neg h]
    show _ = ((p.toNat : Nat) : Int)
    split <;> omega
set_option maxHeartbeats 3200000 in
set_option maxRecDepth 100000 in
theorem add_root_ok (H : TreeAt w h S c) (hs : Sim c t) {p : Int} (hp : p < 0) {a : Nat} {r : List Nat} (hf : t.free = a :: r) :
    Calls Try.prog 27 #[ptr h, .int .i64 p] w fun e w' => e = .returned (.tuple #[.int .i64 (a : Nat), .int .i64 0]) ∧ ∃ c', Sim c' (t.addAt none a r) ∧ Turns h S c' w w' := by
  have hn := hs.lenN
  have hcnt := hs.count
  have HN := none_any H
  have e0 : decide (c.size = 0) = false := by have := hs.one; have := hs.size; simp; omega
  rw [e0] at HN
  have HL := Lib.hid (fun W (hc : Chg [] w W) => len_any (H.quiet hc) hcnt.2 hn)
  have HSZ := Lib.hid (fun W (hc : Chg [] w W) => size_any (H.quiet hc))
  have HTK := Lib.hid (fun W (hc : Chg [] w W) => Taken.call (H.quiet hc) hs hf)
  have hfull : t.len ≠ t.size := by
    have := hs.wf.len
    rw [hf] at this
    simp at this
    omega
  rw [hcnt.1] at HL
  rw [hs.size] at HSZ
  have hlb : ((t.len : Int) == (t.size : Int)) = false := by simp; omega
  have hm : (if p < -1 then (-1 : Int) else p) = -1 := by split <;> omega
  obtain ⟨h0, hh0⟩ : ∃ h0, h0 = hdI (t.row none) := ⟨_, rfl⟩
  have HFIN := Lib.hid (fun c1 (hk : Taken c c1 a t r) => hs.add hf hk (o := none) (fun _ h => by cases h))
  have HHD := Lib.hid (fun c1 (hk : Taken c c1 a t r) => hs.hd2 hf hk (o := none) (fun _ h => by cases h))
  have HIN := Lib.hid (fun c1 (hk : Taken c c1 a t r) => (In.hd (c := c1) (A := t.row none) (fun x hx => Nat.lt_of_lt_of_le (hs.lt hx) hk.le)))
  have HIP := Lib.hid (fun c1 (hk : Taken c c1 a t r) => show In c1 (-1) from (match hs.in_ (o := none) (fun _ h => by cases h) with | .inl h => .inl h | .inr ⟨k, h1, h2⟩ => .inr ⟨k, h1, Nat.lt_of_lt_of_le h2 hk.le⟩))
  have HBIG := Lib.hid hs.big
  rw [← hh0] at HFIN HHD HIN
  clear hfull H hs hf hh0
  go_enter Try.func27, Try.ntmps27
  go_wp2_with (first
    | (go_at_call 38; refine HN.mono ?_; rintro e w' ⟨rfl, rfl⟩)
    | (go_at_call 20; refine (HL.out _ (Chg.refl _ _)).mono ?_; rintro e w1 ⟨rfl, hc1⟩; have HC1 := Lib.hid hc1; clear hc1)
    | (go_at_call 31; refine (HSZ.out _ HC1.out).mono ?_; rintro e w' ⟨rfl, rfl⟩)
    | (go_at_call 47; obtain ⟨c1, hk, hcall⟩ := HTK.out _ HC1.out; refine hcall.mono ?_; rintro e w2 ⟨rfl, hT⟩; obtain ⟨g, cN, q1, q2, q3, q4, ⟨u0, u1, u2, u3, u4, b0, b1, b2, b3, b4⟩, S1, H2, k1, k2⟩ := adds_of (hT.earlier HC1.out) hk.lt (-1); have H2 := Lib.hid H2; have K1 := Lib.hid k1; have K2 := Lib.hid k2; have i0 : (0 : Int) ≤ (a : Int) := (by omega); have i1 : (a : Int) < (c1.N.length : Int) := (by have := hk.lt; omega); have HLEN := Lib.hid (show (c1.upd a (fun _ => ndA (-1))).N.length ≤ 4096 by rw [upd_len]; exact Nat.le_trans hk.len HBIG.out); have HI0 := Lib.hid ((HIP.out c1 hk).mono (c' := c1.upd a (fun _ => ndA (-1))) (upd_len ..)); have HIA := Lib.hid (show In (c1.upd a (fun _ => ndA (-1))) ((a : Nat) : Int) from .inr ⟨a, rfl, by rw [upd_len]; exact hk.lt⟩); have HIH := Lib.hid ((HIN.out c1 hk).mono (c' := c1.upd a (fun _ => ndA (-1))) (upd_len ..)); have HDD := Lib.hid (HHD.out c1 hk); have HFF := Lib.hid (HFIN.out c1 hk); clear hT hcall k1 k2 hk))
  refine (head_any H2.out HLEN.out (-1) HI0.out.ix).mono ?_
  rintro e w' ⟨rfl, b, o, rfl, hf, _⟩
  obtain ⟨lb, cb, fb⟩ := hf _ (Chg.refl _ _)
  rw [show (c1.upd a (fun _ => ndA (-1))).hd (-1) = h0 from HDD.out] at cb
  clear hf
  go_wp2_with (fail)
  refine (join_any H2.out HLEN.out HI0.out.ix HIA.out.ix HIH.out.ix).mono ?_
  rintro e w3 ⟨rfl, H3, hc3⟩
  have HH3 := Lib.hid H3
  have HC3 := Lib.hid hc3
  clear H3 hc3
  go_wp2_with (fail)
  refine (join_any HH3.out (by rw [join_len]; exact HLEN.out) (HI0.out.mono (join_len ..)).ix (.inl rfl) (HIA.out.mono (join_len ..)).ix).mono ?_
  rintro e w4 ⟨rfl, H4, hc4⟩
  have HH4 := Lib.hid H4
  have HC4 := Lib.hid hc4
  clear H4 hc4
  go_wp2
  go_ret2
  exact ⟨rfl, _, HFF.out, S1, HH4.out, K1.out, (K2.out.trans HC3.out K1.out).trans HC4.out K1.out⟩
set_option maxHeartbeats 3200000 in
set_option maxRecDepth 100000 in
theorem add_kid_ok (H : TreeAt w h S c) (hs : Sim c t) {q : Nat} (hq : t.there q = true) {a : Nat} {r : List Nat} (hf : t.free = a :: r) :
    Calls Try.prog 27 #[ptr h, .int .i64 (q : Nat)] w fun e w' => e = .returned (.tuple #[.int .i64 (a : Nat), .int .i64 0]) ∧ ∃ c', Sim c' (t.addAt (some q) a r) ∧ Turns h S c' w w' := by
  have hn := hs.lenN
  have hcnt := hs.count
  have HN := none_any H
  have e0 : decide (c.size = 0) = false := by have := hs.one; have := hs.size; simp; omega
  rw [e0] at HN
  have HL := Lib.hid (fun W (hc : Chg [] w W) => len_any (H.quiet hc) hcnt.2 hn)
  have HSZ := Lib.hid (fun W (hc : Chg [] w W) => size_any (H.quiet hc))
  have HTK := Lib.hid (fun W (hc : Chg [] w W) => Taken.call (H.quiet hc) hs hf)
  have hfull : t.len ≠ t.size := by
    have := hs.wf.len
    rw [hf] at this
    simp at this
    omega
  rw [hcnt.1] at HL
  rw [hs.size] at HSZ
  have hlb : ((t.len : Int) == (t.size : Int)) = false := by simp; omega
  have hm : (if ((q : Nat) : Int) < -1 then (-1 : Int) else (q : Nat)) = (q : Nat) := by split <;> omega
  have hqb : (((q : Nat) : Int) != -1) = true := by simp
  have HHS := Lib.hid (has_any H hn (q : Nat))
  rw [hs.has, t.has_nat, hq] at HHS
  obtain ⟨h0, hh0⟩ : ∃ h0, h0 = hdI (t.row (some q)) := ⟨_, rfl⟩
  have HFIN := Lib.hid (fun c1 (hk : Taken c c1 a t r) => hs.add hf hk (o := (some q)) (fun _ h => by cases h; exact hq))
  have HHD := Lib.hid (fun c1 (hk : Taken c c1 a t r) => hs.hd2 hf hk (o := (some q)) (fun _ h => by cases h; exact hq))
  have HIN := Lib.hid (fun c1 (hk : Taken c c1 a t r) => (In.hd (c := c1) (A := t.row (some q)) (fun x hx => Nat.lt_of_lt_of_le (hs.lt hx) hk.le)))
  have HIP := Lib.hid (fun c1 (hk : Taken c c1 a t r) => show In c1 ((q : Nat) : Int) from (match hs.in_ (o := (some q)) (fun _ h => by cases h; exact hq) with | .inl h => .inl h | .inr ⟨k, h1, h2⟩ => .inr ⟨k, h1, Nat.lt_of_lt_of_le h2 hk.le⟩))
  have HBIG := Lib.hid hs.big
  rw [← hh0] at HFIN HHD HIN
  clear hfull H hs hf hh0 hq
  go_enter Try.func27, Try.ntmps27
  go_wp2_with (first
    | (go_at_call 38; refine HN.mono ?_; rintro e w' ⟨rfl, rfl⟩)
    | (go_at_call 23; refine HHS.out.mono ?_; rintro e w0 ⟨rfl, hc0⟩; have HC0 := Lib.hid hc0; clear hc0)
    | (go_at_call 20; refine (HL.out _ HC0.out).mono ?_; rintro e w1 ⟨rfl, hc1⟩; have HC1 := Lib.hid (HC0.out.then hc1); clear hc1)
    | (go_at_call 31; refine (HSZ.out _ HC1.out).mono ?_; rintro e w' ⟨rfl, rfl⟩)
    | (go_at_call 47; obtain ⟨c1, hk, hcall⟩ := HTK.out _ HC1.out; refine hcall.mono ?_; rintro e w2 ⟨rfl, hT⟩; obtain ⟨g, cN, q1, q2, q3, q4, ⟨u0, u1, u2, u3, u4, b0, b1, b2, b3, b4⟩, S1, H2, k1, k2⟩ := adds_of (hT.earlier HC1.out) hk.lt ((q : Nat) : Int); have H2 := Lib.hid H2; have K1 := Lib.hid k1; have K2 := Lib.hid k2; have i0 : (0 : Int) ≤ (a : Int) := (by omega); have i1 : (a : Int) < (c1.N.length : Int) := (by have := hk.lt; omega); have HLEN := Lib.hid (show (c1.upd a (fun _ => ndA ((q : Nat) : Int))).N.length ≤ 4096 by rw [upd_len]; exact Nat.le_trans hk.len HBIG.out); have HI0 := Lib.hid ((HIP.out c1 hk).mono (c' := c1.upd a (fun _ => ndA ((q : Nat) : Int))) (upd_len ..)); have HIA := Lib.hid (show In (c1.upd a (fun _ => ndA ((q : Nat) : Int))) ((a : Nat) : Int) from .inr ⟨a, rfl, by rw [upd_len]; exact hk.lt⟩); have HIH := Lib.hid ((HIN.out c1 hk).mono (c' := c1.upd a (fun _ => ndA ((q : Nat) : Int))) (upd_len ..)); have HDD := Lib.hid (HHD.out c1 hk); have HFF := Lib.hid (HFIN.out c1 hk); clear hT hcall k1 k2 hk))
  refine (head_any H2.out HLEN.out ((q : Nat) : Int) HI0.out.ix).mono ?_
  rintro e w' ⟨rfl, b, o, rfl, hf, _⟩
  obtain ⟨lb, cb, fb⟩ := hf _ (Chg.refl _ _)
  rw [show (c1.upd a (fun _ => ndA ((q : Nat) : Int))).hd ((q : Nat) : Int) = h0 from HDD.out] at cb
  clear hf
  go_wp2_with (fail)
  refine (join_any H2.out HLEN.out HI0.out.ix HIA.out.ix HIH.out.ix).mono ?_
  rintro e w3 ⟨rfl, H3, hc3⟩
  have HH3 := Lib.hid H3
  have HC3 := Lib.hid hc3
  clear H3 hc3
  go_wp2_with (fail)
  refine (join_any HH3.out (by rw [join_len]; exact HLEN.out) (HI0.out.mono (join_len ..)).ix (.inl rfl) (HIA.out.mono (join_len ..)).ix).mono ?_
  rintro e w4 ⟨rfl, H4, hc4⟩
  have HH4 := Lib.hid H4
  have HC4 := Lib.hid hc4
  clear H4 hc4
  go_wp2
  go_ret2
  exact ⟨rfl, _, HFF.out, S1, HH4.out, K1.out, (K2.out.trans HC3.out K1.out).trans HC4.out K1.out⟩
set_option maxHeartbeats 1600000 in
theorem add_nobody (H : TreeAt w h S c) (hs : Sim c t) {p : Int} (h0 : 0 ≤ p) (hq : t.has p = false) :
    Calls Try.prog 27 #[ptr h, .int .i64 p] w fun e w' => e = .returned (.tuple #[.int .i64 0, .int .i64 4]) ∧ Chg [] w w' := by
  have hn := hs.lenN
  have HN := none_any H
  have e0 : decide (c.size = 0) = false := by have := hs.one; have := hs.size; simp; omega
  rw [e0] at HN
  obtain ⟨q, rfl⟩ := Int.eq_ofNat_of_zero_le h0
  have hm : (if ((q : Nat) : Int) < -1 then (-1 : Int) else (q : Nat)) = (q : Nat) := by split <;> omega
  have hqb : (((q : Nat) : Int) != -1) = true := by simp
  have HHS := Lib.hid (has_any H hn (q : Nat))
  rw [hs.has, hq] at HHS
  clear H hs hq h0
  go_enter Try.func27, Try.ntmps27
  go_wp2_with (first
    | (go_at_call 38; refine HN.mono ?_; rintro e w' ⟨rfl, rfl⟩)
    | (go_at_call 23; refine HHS.out.mono ?_; rintro e w0 ⟨rfl, hc0⟩; have HC0 := Lib.hid hc0; clear hc0))
  go_ret2
  exact ⟨rfl, HC0.out⟩
set_option maxHeartbeats 1600000 in
theorem add_full (H : TreeAt w h S c) (hs : Sim c t) {p : Int} (hp : p < 0 ∨ t.has p = true) (hf : t.free = []) :
    Calls Try.prog 27 #[ptr h, .int .i64 p] w fun e w' => e = .returned (.tuple #[.int .i64 0, .int .i64 3]) ∧ Chg [] w w' := by
  have hn := hs.lenN
  have hcnt := hs.count
  have HN := none_any H
  have e0 : decide (c.size = 0) = false := by have := hs.one; have := hs.size; simp; omega
  rw [e0] at HN
  have HL := Lib.hid (fun W (hc : Chg [] w W) => len_any (H.quiet hc) hcnt.2 hn)
  have HSZ := Lib.hid (fun W (hc : Chg [] w W) => size_any (H.quiet hc))
  rw [hcnt.1] at HL
  rw [hs.size] at HSZ
  have hfu := hs.full.1 hf
  have hlb : ((t.len : Int) == (t.size : Int)) = true := by simp; omega
  have HHS := Lib.hid (has_any H hn p)
  rw [hs.has] at HHS
  rcases hp with hp | hp
  · have hm : (if p < -1 then (-1 : Int) else p) = -1 := by split <;> omega
    clear H hs hf hfu HHS
    go_enter Try.func27, Try.ntmps27
    go_wp2_with (first
      | (go_at_call 38; refine HN.mono ?_; rintro e w' ⟨rfl, rfl⟩)
      | (go_at_call 20; refine (HL.out _ (Chg.refl _ _)).mono ?_; rintro e w1 ⟨rfl, hc1⟩; have HC1 := Lib.hid hc1; clear hc1)
      | (go_at_call 31; refine (HSZ.out _ HC1.out).mono ?_; rintro e w' ⟨rfl, rfl⟩))
    go_ret2
    exact ⟨rfl, HC1.out⟩
  · rw [hp] at HHS
    obtain ⟨q, rfl⟩ : ∃ q : Nat, p = (q : Nat) := Int.eq_ofNat_of_zero_le (by unfold Fo.has at hp; simp at hp; omega)
    have hm : (if ((q : Nat) : Int) < -1 then (-1 : Int) else (q : Nat)) = (q : Nat) := by split <;> omega
    have hqb : (((q : Nat) : Int) != -1) = true := by simp
    clear H hs hf hfu hp
    go_enter Try.func27, Try.ntmps27
    go_wp2_with (first
      | (go_at_call 38; refine HN.mono ?_; rintro e w' ⟨rfl, rfl⟩)
      | (go_at_call 23; refine HHS.out.mono ?_; rintro e w0 ⟨rfl, hc0⟩; have HC0 := Lib.hid hc0; clear hc0)
      | (go_at_call 20; refine (HL.out _ HC0.out).mono ?_; rintro e w1 ⟨rfl, hc1⟩; have HC1 := Lib.hid (HC0.out.then hc1); clear hc1)
      | (go_at_call 31; refine (HSZ.out _ HC1.out).mono ?_; rintro e w' ⟨rfl, rfl⟩))
    go_ret2
    exact ⟨rfl, HC1.out⟩
/-- What Add answers, and leaves. -/
def Fo.addE (t : Fo) (p : Int) : Int := if 0 ≤ p ∧ t.has p = false then 4 else if t.free = [] then 3 else 0
def Fo.addN (t : Fo) (p : Int) : Int := if t.addE p = 0 then ((t.free.headD 0 : Nat) : Int) else 0
def Fo.add (t : Fo) (p : Int) : Fo := if t.addE p = 0 then t.addAt (optI p) (t.free.headD 0) t.free.tail else t
theorem Turns.ret (H : TreeAt w h S c) (hs : Sim c t) {w' : World} (hc : Chg [] w w') : ∃ c', Sim c' t ∧ Turns h S c' w w' := ⟨c, hs, Turns.refl H hc⟩
theorem cadd_any (H : TreeAt w h S c) (hs : Sim c t) (p : Int) :
    Calls Try.prog 27 #[ptr h, .int .i64 p] w fun e w' => e = .returned (.tuple #[.int .i64 (t.addN p), .int .i64 (t.addE p)]) ∧ ∃ c', Sim c' (t.add p) ∧ Turns h S c' w w' := by
  unfold Fo.addN Fo.add Fo.addE
  by_cases h1 : 0 ≤ p ∧ t.has p = false
  · rw [if_pos h1, if_neg (by omega), if_neg (by omega)]
    exact (add_nobody H hs h1.1 h1.2).mono fun e w' hh => ⟨hh.1, Turns.ret H hs hh.2⟩
  · rw [if_neg h1]
    have hp : p < 0 ∨ t.has p = true := by
      by_cases h0 : p < 0
      · exact .inl h0
      · right
        cases hh : t.has p with
        | true => rfl
        | false => exact absurd ⟨by omega, hh⟩ h1
    cases hf : t.free with
    | nil =>
      rw [if_pos rfl, if_neg (by omega), if_neg (by omega)]
      exact (add_full H hs hp hf).mono fun e w' hh => ⟨hh.1, Turns.ret H hs hh.2⟩
    | cons a r =>
      simp only [reduceCtorEq, if_false, if_true, List.headD_cons, List.tail_cons]
      rcases hp with hp | hp
      · have : optI p = none := by unfold optI; rw [if_pos hp]
        rw [this]
        exact add_root_ok H hs hp hf
      · obtain ⟨q, rfl⟩ : ∃ q : Nat, p = (q : Nat) := Int.eq_ofNat_of_zero_le (by unfold Fo.has at hp; simp at hp; omega)
        have : optI (q : Nat) = some q := by unfold optI; rw [if_neg (by omega), Int.toNat_natCast]
        rw [this]
        rw [t.has_nat] at hp
        exact add_kid_ok H hs hp hf
end
end Go.Proofs
end
section
namespace Go.Proofs
open Go.RowKit
set_option linter.unusedVariables false
set_option linter.unusedSimpArgs false

section
variable {w : World} {h : Nat} {S : List Nat} {c : Tr} {t : Fo}
theorem nodup_len {l : List Nat} {n : Nat} (h : l.Nodup) (hl : ∀ x ∈ l, x < n) : l.length ≤ n := by
  have := List.Nodup.length_le_of_subset h (l₂ := List.range n) (fun x hx => by simpa using hl x hx)
  simpa using this
theorem Fo.WF.row_len {t : Fo} (h : t.WF) (o : Option Nat) : (t.row o).length ≤ t.size := nodup_len (h.nodup o) (fun x hx => h.lt x (h.par o x hx).1)
theorem Fo.WF.pre_len {t : Fo} (h : t.WF) {n : Nat} {l : List Nat} (hl : Pre t (t.kids n) l) : l.length ≤ t.size := nodup_len (hl.desc_nodup h) (fun x hx => h.lt x ((hl.desc x).1 hx |>.there h).2)
/-- A node's children; of no node none. -/
def Fo.kidsI (t : Fo) (i : Int) : List Nat := if 0 ≤ i then t.kids i.toNat else []
theorem Fo.kidsI_no {t : Fo} (h : t.WF) {i : Int} (hi : t.has i = false) : t.kidsI i = [] := by
  unfold Fo.kidsI
  split
  · rename_i h0
    exact (h.off _ (by unfold Fo.has at hi; simpa [h0] using hi)).1
  · rfl
/-- A slice in new memory that reads as l. -/
def News (w w' : World) (e : Ending) (l : List Nat) : Prop := ∃ A cc, e = .returned (.slice A l.length cc) ∧ Fresh w w' (.slice A l.length cc) (iN l)
theorem News.nil {w w' : World} (h : Chg [] w w') : News w w' (.returned (.slice none 0 0)) [] := ⟨none, 0, rfl, Fresh.nil h⟩
theorem crow_any (H : TreeAt w h S c) (hs : Sim c t) {o : Option Nat} (ho : ∀ p, o = some p → t.there p = true) :
    Calls Try.prog 45 #[ptr h, .int .i64 (oI o)] w fun e w' => News w w' e (t.row o) :=
  row_any H hs.lenN (hs.in_ ho).ix (hs.seq ho) (Nat.le_trans (hs.wf.row_len o) hs.big)
set_option maxHeartbeats 1600000 in
theorem ckids_any (H : TreeAt w h S c) (hs : Sim c t) (i : Int) : Calls Try.prog 19 #[ptr h, .int .i64 i] w fun e w' => News w w' e (t.kidsI i) := by
  have HHS := Lib.hid (has_any H hs.lenN i)
  rw [hs.has] at HHS
  cases hi : t.has i with
  | false =>
    rw [t.kidsI_no hs.wf hi]
    rw [hi] at HHS
    clear H hs hi
    go_enter Try.func19, Try.ntmps19
    go_wp2_with (go_at_call 23; refine HHS.out.mono ?_; rintro e w0 ⟨rfl, hc0⟩; have HC0 := Lib.hid hc0; clear hc0)
    go_ret
    exact News.nil HC0.out
  | true =>
    rw [hi] at HHS
    obtain ⟨n, rfl⟩ : ∃ n : Nat, i = (n : Nat) := Int.eq_ofNat_of_zero_le (by unfold Fo.has at hi; simp at hi; omega)
    rw [t.has_nat] at hi
    have hk : t.kidsI (n : Nat) = t.row (some n) := by unfold Fo.kidsI; rw [if_pos (by omega), Int.toNat_natCast]; rfl
    rw [hk]
    have HR := Lib.hid (fun W (hc : Chg [] w W) => crow_any (H.quiet hc) hs (o := some n) (fun _ h => by cases h; exact hi))
    obtain ⟨l, hl⟩ : ∃ l, l = t.row (some n) := ⟨_, rfl⟩
    rw [← hl] at HR ⊢
    clear H hs hi hk hl
    go_enter Try.func19, Try.ntmps19
    go_wp2_with (first
      | (go_at_call 23; refine HHS.out.mono ?_; rintro e w0 ⟨rfl, hc0⟩; have HC0 := Lib.hid hc0; clear hc0)
      | (go_at_call 45; refine (HR.out _ HC0.out).mono ?_; rintro e w1 ⟨A, cc, rfl, hf⟩; have HF := Lib.hid (hf.before HC0.out); clear hf))
    go_ret
    exact ⟨A, cc, rfl, HF.out⟩
set_option maxHeartbeats 1600000 in
theorem croots_any (H : TreeAt w h S c) (hs : Sim c t) : Calls Try.prog 22 #[ptr h] w fun e w' => News w w' e t.roots := by
  have HN := none_any H
  have e0 : decide (c.size = 0) = false := by have := hs.one; have := hs.size; simp; omega
  rw [e0] at HN
  have HR := Lib.hid (crow_any H hs (o := none) (fun _ h => by cases h))
  obtain ⟨l, hl⟩ : ∃ l, l = t.roots := ⟨_, rfl⟩
  rw [show t.row none = l from hl.symm] at HR
  rw [← hl]
  clear H hs hl e0
  go_enter Try.func22, Try.ntmps22
  go_wp2_with (first
    | (go_at_call 38; refine HN.mono ?_; rintro e w' ⟨rfl, rfl⟩)
    | (go_at_call 45; refine HR.out.mono ?_; rintro e w1 ⟨A, cc, rfl, hf⟩; have HF := Lib.hid hf; clear hf))
  go_ret
  exact ⟨A, cc, rfl, HF.out⟩
/-- What is below a node: its preorder; of no node nothing. -/
def Below' (t : Fo) (i : Int) (l : List Nat) : Prop := if t.has i then Pre t (t.kids i.toNat) l else l = []
theorem Below'.exists {t : Fo} (h : t.WF) (i : Int) : ∃ l, Below' t i l := by
  unfold Below'
  split
  · exact Pre.exists h _
  · exact ⟨[], rfl⟩
theorem Below'.det {t : Fo} {i : Int} {a b : List Nat} (h1 : Below' t i a) (h2 : Below' t i b) : a = b := by
  unfold Below' at h1 h2
  split at h1
  · rename_i hh; rw [if_pos hh] at h2; exact h1.det h2
  · rename_i hh; rw [if_neg hh] at h2; rw [h1, h2]
theorem cbelow_any (H : TreeAt w h S c) (hs : Sim c t) {n : Nat} (hn : t.there n = true) {l : List Nat} (hl : Pre t (t.kids n) l) :
    Calls Try.prog 42 #[ptr h, .int .i64 (n : Nat)] w fun e w' => News w w' e l := by
  obtain ⟨n1, n2, n3, n4⟩ := hs.node n hn
  have := hs.tv hl
  rw [← n4] at this
  exact below_any H hs.lenN (nd_get n1) this (Nat.le_trans (hs.wf.pre_len hl) hs.big)
set_option maxHeartbeats 1600000 in
theorem cdesc_any (H : TreeAt w h S c) (hs : Sim c t) {i : Int} {l : List Nat} (hb : Below' t i l) : Calls Try.prog 28 #[ptr h, .int .i64 i] w fun e w' => News w w' e l := by
  have HHS := Lib.hid (has_any H hs.lenN i)
  rw [hs.has] at HHS
  unfold Below' at hb
  cases hi : t.has i with
  | false =>
    rw [hi] at HHS hb
    simp only [Bool.false_eq_true, if_false] at hb
    subst hb
    clear H hs hi
    go_enter Try.func28, Try.ntmps28
    go_wp2_with (go_at_call 23; refine HHS.out.mono ?_; rintro e w0 ⟨rfl, hc0⟩; have HC0 := Lib.hid hc0; clear hc0)
    go_ret
    exact News.nil HC0.out
  | true =>
    rw [hi] at HHS hb
    simp only [if_true] at hb
    obtain ⟨n, rfl⟩ : ∃ n : Nat, i = (n : Nat) := Int.eq_ofNat_of_zero_le (by unfold Fo.has at hi; simp at hi; omega)
    rw [t.has_nat] at hi
    rw [Int.toNat_natCast] at hb
    have HR := Lib.hid (fun W (hc : Chg [] w W) => cbelow_any (H.quiet hc) hs hi hb)
    clear H hs hi hb
    go_enter Try.func28, Try.ntmps28
    go_wp2_with (first
      | (go_at_call 23; refine HHS.out.mono ?_; rintro e w0 ⟨rfl, hc0⟩; have HC0 := Lib.hid hc0; clear hc0)
      | (go_at_call 42; refine (HR.out _ HC0.out).mono ?_; rintro e w1 ⟨A, cc, rfl, hf⟩; have HF := Lib.hid (hf.before HC0.out); clear hf))
    go_ret
    exact ⟨A, cc, rfl, HF.out⟩
/-- Under, by the plain forest. -/
theorem cunder_any (H : TreeAt w h S c) (hs : Sim c t) (i j : Int) {b : Bool} (hb : b = true ↔ t.under i j) : Calls Try.prog 24 #[ptr h, .int .i64 i, .int .i64 j] w fun e w' => e = .returned (.bool b) ∧ Chg [] w w' := by
  obtain ⟨L, h1, h2⟩ := hs.pa i
  have := under_any H hs.lenN h1 j
  have e : decide (j ∈ iN L) = b := by
    cases b with
    | true => exact decide_eq_true ((h2 j).2 (hb.1 rfl))
    | false => exact decide_eq_false (fun h => by have := hb.2 ((h2 j).1 h); cases this)
  rw [e] at this
  exact this
/-- The error, where there is no such node. -/
def Fo.noE (t : Fo) (i : Int) : Int := if t.has i then 0 else 4
theorem cfind_any (H : TreeAt w h S c) (hs : Sim c t) (i : Int) : Calls Try.prog 41 #[ptr h, .int .i64 i] w fun e w' => e = .returned (.int .i64 (t.noE i)) ∧ Chg [] w w' := by
  have := find_any H hs.lenN i
  unfold findE at this
  rw [if_neg (by have := hs.one; have := hs.size; omega), hs.has] at this
  exact this
theorem TreeAt.apart (H : TreeAt w h S c) {g cl : Nat} (hv : w.cell? ⟨h, 2, none⟩ = some (.slice (some ⟨g, 0, none⟩) c.N.length cl)) {v : Value} {l : List Int} (hr : Rd w v l) : g ∉ foot v := by
  obtain ⟨VN, VF, hB, hN, hF, rfl⟩ := H
  have e0 : VN = .slice (some ⟨g, 0, none⟩) c.N.length cl := by
    have := hB.cell 2
    simp only [List.getElem?_toArray, List.getElem?_cons_zero, List.getElem?_cons_succ] at this
    rw [this] at hv
    exact Option.some.inj hv
  subst e0
  rcases hN.2 with ⟨h0, _⟩ | ⟨g', cap', cur, hv', hg, _⟩
  · cases h0
  · injection hv' with hv' _ _
    injection hv' with hv'
    injection hv' with hv' _ _
    subst hv'
    exact hr.ty hg (by decide)
/-- What there is of a node, for a walk that writes. -/
theorem TreeAt.open2 (H : TreeAt w h S c) {k : Nat} (hk : k < c.N.length) :
    ∃ g cN, w.cell? ⟨h, 2, none⟩ = some (.slice (some ⟨g, 0, none⟩) c.N.length cN) ∧ h < w.heap.size ∧ g < w.heap.size ∧ (0 : Int) ≤ (k : Int) ∧ (k : Int) < (c.N.length : Int) ∧ (∀ j, w.frozen? ⟨g, j, none⟩ = false) ∧
      w.cell? ⟨g, k * 5, none⟩ = some (.bool (c.nd (k : Nat)).there) ∧ w.cell? ⟨g, k * 5 + 1, none⟩ = some (.int .i64 (c.nd (k : Nat)).par) ∧ w.cell? ⟨g, k * 5 + 2, none⟩ = some (.int .i64 (c.nd (k : Nat)).child) ∧ w.cell? ⟨g, k * 5 + 3, none⟩ = some (.int .i64 (c.nd (k : Nat)).left) ∧ w.cell? ⟨g, k * 5 + 4, none⟩ = some (.int .i64 (c.nd (k : Nat)).right) ∧
      (∀ (j : Nat) (d' : Nd) (u : Value), j < 5 → d'.cells = (c.nd (k : Nat)).cells.set j u → TreeAt (w.setCell ⟨g, k * 5 + j, none⟩ u) h S (c.upd k fun _ => d') ∧ Chg S w (w.setCell ⟨g, k * 5 + j, none⟩ u)) := by
  have hd := nd_get hk
  obtain ⟨A, cN, B, cF, _, _, _, _, hh, hnd, _⟩ := H.head
  obtain ⟨g, rfl, hne, hW⟩ := hnd k _ hd
  obtain ⟨_, _, c2, _, lt, _⟩ := hh w (Chg.refl _ _)
  obtain ⟨lg, fz, b0, b1, b2, b3, b4⟩ := hW w (Chg.refl _ _)
  refine ⟨g, cN, c2, lt, lg, by omega, by omega, fz, b0, b1, b2, b3, b4, fun j d' u hj hu => ?_⟩
  rw [upd_some hd]
  exact H.node c2 hd hj hu
theorem upd_same_nd {c : Tr} {k : Nat} {f g : Nd → Nd} (h : f (c.nd (k : Nat)) = g (c.nd (k : Nat))) : c.upd k f = c.upd k g := by
  unfold Tr.upd
  cases hd : c.N[k]? with
  | none => rfl
  | some d =>
    have := nd_at hd
    rw [this] at h
    show ({ c with N := c.N.set k (f d) } : Tr) = { c with N := c.N.set k (g d) }
    rw [h]
set_option maxHeartbeats 1600000 in
set_option maxRecDepth 100000 in
theorem prune_ok (H : TreeAt w h S c) (hs : Sim c t) {n : Nat} (hn : t.there n = true) {l : List Nat} (hl : Pre t (t.kids n) l) :
    Calls Try.prog 16 #[ptr h, .int .i64 (n : Nat)] w fun e w' => ∃ A cc, e = .returned (.tuple #[.slice A l.length cc, .int .i64 0]) ∧ Rd w' (.slice A l.length cc) (iN l) ∧ (∀ k ∈ foot (.slice A l.length cc), w.heap.size ≤ k) ∧ ∃ c', Sim c' (t.prune n l) ∧ Turns h S c' w w' := by
  have HF := cfind_any H hs (n : Nat)
  unfold Fo.noE at HF
  rw [t.has_nat, if_pos hn] at HF
  have HB := Lib.hid (fun W (hc : Chg [] w W) => cbelow_any (H.quiet hc) hs hn hl)
  have hcnt := hs.count
  have hlt : ∀ x ∈ l, x < c.N.length := fun x hx => (hs.node x ((hl.desc x).1 hx |>.there hs.wf).2).1
  have hl2 : l.length ≤ 4096 := Nat.le_trans (hs.wf.pre_len hl) hs.big
  have hlN := hs.lenN
  have hSlt := H.lt
  obtain ⟨c2, hc2⟩ : ∃ c2, c2 = ({ c with N := clr c.N l, F := c.F ++ l } : Tr) := ⟨_, rfl⟩
  have HFR := Lib.hid (fun W (hc : Chg [] w W) (v : Value) (hv : Rd W v (iN l)) (hf : ∀ k ∈ foot v, w.heap.size ≤ k) => free_any (H.quiet hc) hv (fun k hk hkS => by have := hf k hk; have := hSlt k hkS; omega) hlt hlN hl2 (by omega))
  rw [← hc2] at HFR
  have HNN := Lib.hid (show n < c2.N.length by rw [hc2]; show n < (clr c.N l).length; rw [clr_len]; exact (hs.node n hn).1)
  have HSIM := Lib.hid (show Sim (c2.upd n fun d => { d with child := -1 }) (t.prune n l) by have := hs.prune hn hl; unfold Tr.prune at this; rw [← hc2] at this; exact this)
  have HSL := Lib.hid hSlt
  clear H hs hn hcnt hlt hl hSlt hc2
  go_enter Try.func16, Try.ntmps16
  go_wp2_with (first
    | (go_at_call 41; refine HF.mono ?_; rintro e w0 ⟨rfl, hc0⟩; have HC0 := Lib.hid hc0; clear hc0)
    | (go_at_call 42; refine (HB.out _ HC0.out).mono ?_; rintro e w1 ⟨A, cc, rfl, hf⟩; have HW := Lib.hid (hf.before HC0.out); clear hf)
    | (go_at_call 43; refine (HFR.out _ HW.out.2.2 _ HW.out.rd HW.out.2.1).mono ?_; rintro e w2 ⟨rfl, hT⟩; obtain ⟨S2, H2, k1', k2'⟩ := hT; have hrd := HW.out.rd.chg k2' (fun k hk hkS => by have := HW.out.2.1 k hk; have := HSL.out k hkS; omega); obtain ⟨g, cN, q2, lt, lg, i0, i1, fz, b0, b1, b2, b3, b4, hst⟩ := H2.open2 HNN.out; have hap := H2.apart q2 hrd; obtain ⟨t1, t2⟩ := hst 2 { c2.nd (n : Nat) with child := -1 } (.int .i64 (-1)) (by omega) rfl; have K1 := Lib.hid (show ∀ k ∈ S2, k ∈ S ∨ w.heap.size ≤ k from fun k hk => (k1' k hk).imp id (fun h => Nat.le_trans HW.out.2.2.size h)); have K2 := Lib.hid (show Chg S w w2 from HW.out.2.2.any.trans k2' (fun k hk => .inl hk)); have HRD := Lib.hid hrd; have HAP := Lib.hid hap; have HT1 := Lib.hid t1; have HT2 := Lib.hid t2; clear hst t1 t2 hrd hap k1' k2' H2))
  go_ret2
  refine ⟨A, cc, rfl, HRD.out.same (fun k hk => Below.heap_setCell _ _ _ _ (fun e => HAP.out (by have : k = g := e; rw [← this]; exact hk))), HW.out.2.1, _, HSIM.out, S2, ?_, K1.out, K2.out.trans HT2.out K1.out⟩
  have := upd_same_nd (c := c2) (k := n) (f := fun d => { d with child := -1 }) (g := fun _ => { c2.nd (n : Nat) with child := -1 }) rfl
  rw [this]
  exact HT1.out
theorem prune_no (H : TreeAt w h S c) (hs : Sim c t) {i : Int} (hi : t.has i = false) :
    Calls Try.prog 16 #[ptr h, .int .i64 i] w fun e w' => e = .returned (.tuple #[.slice none 0 0, .int .i64 4]) ∧ Chg [] w w' := by
  have HF := cfind_any H hs i
  unfold Fo.noE at HF
  rw [if_neg (by rw [hi]; simp)] at HF
  clear H hs hi
  go_enter Try.func16, Try.ntmps16
  go_wp2_with (go_at_call 41; refine HF.mono ?_; rintro e w0 ⟨rfl, hc0⟩; have HC0 := Lib.hid hc0; clear hc0)
  go_ret2
  exact ⟨rfl, HC0.out⟩
/-- What Prune leaves. -/
def Fo.pruneI (t : Fo) (i : Int) (l : List Nat) : Fo := if t.has i then t.prune i.toNat l else t
theorem cprune_any (H : TreeAt w h S c) (hs : Sim c t) {i : Int} {l : List Nat} (hb : Below' t i l) :
    Calls Try.prog 16 #[ptr h, .int .i64 i] w fun e w' => ∃ A cc, e = .returned (.tuple #[.slice A l.length cc, .int .i64 (t.noE i)]) ∧ Rd w' (.slice A l.length cc) (iN l) ∧ (∀ k ∈ foot (.slice A l.length cc), w.heap.size ≤ k) ∧ ∃ c', Sim c' (t.pruneI i l) ∧ Turns h S c' w w' := by
  unfold Fo.pruneI Fo.noE
  unfold Below' at hb
  cases hi : t.has i with
  | false =>
    rw [hi] at hb
    simp only [Bool.false_eq_true, if_false] at hb ⊢
    subst hb
    exact (prune_no H hs hi).mono fun e w' hh => ⟨none, 0, hh.1, Rd.nil _, fun k hk => (by cases hk), c, hs, Turns.refl H hh.2⟩
  | true =>
    rw [hi] at hb
    simp only [if_true] at hb ⊢
    obtain ⟨n, rfl⟩ : ∃ n : Nat, i = (n : Nat) := Int.eq_ofNat_of_zero_le (by unfold Fo.has at hi; simp at hi; omega)
    rw [t.has_nat] at hi
    rw [Int.toNat_natCast] at hb ⊢
    exact prune_ok H hs hi hb
end
end Go.Proofs
end
section
namespace Go.Proofs
open Go.RowKit
set_option linter.unusedVariables false
set_option linter.unusedSimpArgs false

section
variable {w : World} {h : Nat} {S : List Nat} {c : Tr} {t : Fo}
theorem moved_in {c : Tr} {p pv : Int} {l : List Nat} {i : Int} (h : In c i) : In (c.moved p pv l) i := h.mono (moved_len ..)
theorem Rd.one (w : World) (x : Int) : Rd (w.alloc (.cells #[.int .i64 x] 3)) (.slice (some ⟨w.heap.size, 0, none⟩) 1 1) [x] :=
  ⟨_, 1, rfl, by simp, by unfold maxLen; omega, fun h => (by cases h), fun a ha => by
    cases ha
    refine ⟨_, 0, _, rfl, Blk.new w 3 _, by simp, fun j z hj => ?_⟩
    match j, hj with
    | 0, hj => simp at hj; simp [hj]⟩
theorem lastOr_take {l : List Nat} {k n : Nat} {x : Int} (h : l[k]? = some n) : lastOr (l.take (k + 1)) x = (n : Nat) := by
  rw [List.take_add_one, h]
  show lastOr (l.take k ++ [n]) x = _
  rw [lastOr_append]; rfl
/-- What there is of a node, for a walk that writes behind a draw. -/
theorem TreeAt.open3 (H : TreeAt w h S c) {k : Nat} (hk : k < c.N.length) :
    ∃ g cN, g ∈ S ∧ w.cell? ⟨h, 2, none⟩ = some (.slice (some ⟨g, 0, none⟩) c.N.length cN) ∧ h < w.heap.size ∧ g < w.heap.size ∧ (0 : Int) ≤ (k : Int) ∧ (k : Int) < (c.N.length : Int) ∧ (∀ j, w.frozen? ⟨g, j, none⟩ = false) ∧
      (∀ j, j < 5 → ∃ u, w.cell? ⟨g, k * 5 + j, none⟩ = some u) ∧
      (∀ (W : World), Chg [] w W → ∀ (j : Nat) (d' : Nd) (u : Value), j < 5 → d'.cells = (c.nd (k : Nat)).cells.set j u → TreeAt (W.setCell ⟨g, k * 5 + j, none⟩ u) h S (c.upd k fun _ => d') ∧ Chg S w (W.setCell ⟨g, k * 5 + j, none⟩ u)) := by
  have hd := nd_get hk
  have hgS : ∀ g cN, w.cell? ⟨h, 2, none⟩ = some (.slice (some ⟨g, 0, none⟩) c.N.length cN) → g ∈ S := by
    intro g cN hv
    obtain ⟨VN, VF, hB, hN, hF, rfl⟩ := H
    have := hB.cell 2
    simp only [List.getElem?_toArray, List.getElem?_cons_zero, List.getElem?_cons_succ] at this
    rw [this] at hv
    injection hv with hv
    subst hv
    simp [foot_some]
  obtain ⟨A, cN, B, cF, _, _, _, _, hh, hnd, _⟩ := H.head
  obtain ⟨g, rfl, hne, hW⟩ := hnd k _ hd
  obtain ⟨_, _, c2, _, lt, _⟩ := hh w (Chg.refl _ _)
  obtain ⟨lg, fz, b0, b1, b2, b3, b4⟩ := hW w (Chg.refl _ _)
  refine ⟨g, cN, hgS g cN c2, c2, lt, lg, by omega, by omega, fz, fun j hj => ?_, fun W hc j d' u hj hu => ?_⟩
  · match j, hj with
    | 0, _ => exact ⟨_, b0⟩
    | 1, _ => exact ⟨_, b1⟩
    | 2, _ => exact ⟨_, b2⟩
    | 3, _ => exact ⟨_, b3⟩
    | 4, _ => exact ⟨_, b4⟩
  · rw [upd_some hd]
    have := (H.quiet hc).node (hh W hc).2.2.1 hd hj hu
    exact ⟨this.1, (Chg.any hc).trans this.2 (fun k hk => .inl hk)⟩
set_option maxHeartbeats 3200000 in
set_option maxRecDepth 100000 in
theorem drop_ok (H : TreeAt w h S c) (hs : Sim c t) {n : Nat} (hn : t.there n = true) :
    Calls Try.prog 26 #[ptr h, .int .i64 (n : Nat)] w fun e w' => e = .returned (.int .i64 0) ∧ ∃ c', Sim c' (t.drop n) ∧ Turns h S c' w w' := by
  have HF := cfind_any H hs (n : Nat)
  unfold Fo.noE at HF
  rw [t.has_nat, if_pos hn] at HF
  obtain ⟨n1, n2, n3, n4⟩ := hs.node n hn
  have HO := Lib.hid (fun W (hc : Chg [] w W) => (H.quiet hc).open2 n1)
  have HR := Lib.hid (fun W (hc : Chg [] w W) => crow_any (H.quiet hc) hs (o := some n) (fun _ h => by cases h; exact hn))
  obtain ⟨ks, hks⟩ : ∃ ks, ks = t.kids n := ⟨_, rfl⟩
  rw [show t.row (some n) = ks from hks.symm] at HR
  have hlk : ∀ x ∈ ks, x < c.N.length := fun x hx => (hs.node x (hs.wf.kid (by rw [← hks]; exact hx)).1).1
  have hkl : ks.length ≤ 4096 := by rw [hks]; exact Nat.le_trans (hs.wf.row_len (some n)) hs.big
  have hip : In c (c.nd (n : Nat)).par := by rw [n3]; exact hs.in_ (fun p hp => hs.wf.up hn hp)
  -- beside whom it stands
  have hmem := hs.wf.mem n hn
  obtain ⟨pre, post, hRw⟩ := List.append_of_mem hmem
  have hlk2 := hs.links (t.par n)
  rw [hRw, Lk.append] at hlk2
  obtain ⟨_, k2, k3, _⟩ := hlk2
  have hil : In c (c.nd (n : Nat)).left := by rw [k2]; exact In.last (fun x hx => hs.lt (o := t.par n) (by rw [hRw]; simp [hx]))
  have hir : In c (c.nd (n : Nat)).right := by rw [k3]; exact In.hd (fun x hx => hs.lt (o := t.par n) (by rw [hRw]; simp [hx]))
  have HSIM := Lib.hid (show Sim (c.drop n ks) (t.drop n) by rw [hks]; exact hs.drop hn)
  have hcnt := hs.count
  have hlN := hs.lenN
  have hSlt := Lib.hid H.lt
  have hFl : c.F.length ≤ 4096 := by omega
  have HH := Lib.hid H
  obtain ⟨gp, hgp⟩ : ∃ gp, gp = (c.nd (n : Nat)).par := ⟨_, rfl⟩
  obtain ⟨gl, hgl⟩ : ∃ gl, gl = (c.nd (n : Nat)).left := ⟨_, rfl⟩
  obtain ⟨gr, hgr⟩ : ∃ gr, gr = (c.nd (n : Nat)).right := ⟨_, rfl⟩
  obtain ⟨gt, hgt⟩ : ∃ gt, gt = (c.nd (n : Nat)).there := ⟨_, rfl⟩
  obtain ⟨gc, hgc⟩ : ∃ gc, gc = (c.nd (n : Nat)).child := ⟨_, rfl⟩
  have HDR := Lib.hid (show c.drop n ks = (let c5 := (c.moved gp gl ks).join gp (lastOr ks gl) gr; { c5 with N := clr c5.N [n], F := c5.F ++ [n] }) by unfold Tr.drop; rw [hgp, hgl, hgr])
  rw [← hgp] at hip HO
  rw [← hgl] at hil HO
  rw [← hgr] at hir HO
  rw [← hgt, ← hgc] at HO
  have HLK := Lib.hid hlk
  have HIP := Lib.hid hip
  have HIL := Lib.hid hil
  have HIR := Lib.hid hir
  have HN1 := Lib.hid n1
  clear H hs hn n1 n2 n3 n4 hks hlk hip hmem hRw k2 k3 hil hir hcnt hgp hgl hgr hgt hgc
  go_enter Try.func26, Try.ntmps26
  go_wp2_with (first
    | (go_at_call 41; refine HF.mono ?_; rintro e w0 ⟨rfl, hc0⟩; obtain ⟨g, cN, q2, lt, lg, i0, i1, fz, b0, b1, b2, b3, b4, _⟩ := HO.out w0 hc0; have HC0 := Lib.hid hc0; clear hc0)
    | (go_at_call 45; (refine (HR.out _ (HC0.out.alloc _)).mono ?_; rintro e w1 ⟨A, cc, rfl, hf⟩; have hbx := (Blk.new w0 70 #[.bool gt, .int .i64 gp, .int .i64 gc, .int .i64 gl, .int .i64 gr]).chg hf.2.2 (by simp); have HBX := Lib.hid hbx; have HW := Lib.hid (hf.before (HC0.out.alloc _)); have LB := Lib.hid (show w.heap.size ≤ w0.heap.size from HC0.out.size); clear hf hbx)))
  clear b0 b1 b2 b3 b4 q2 lg fz lt
  have HW0 := Lib.hid HW.out
  go_loopg [7, 29] ks.length (fun gh lv iv wr => ∃ (k : Nat) (lst : Int), k + gh = ks.length ∧ lv = .int .i64 lst ∧ iv = .int .i64 k ∧ Hid (lst = lastOr (ks.take k) gl ∧ TreeAt wr h S (c.moved gp gl (ks.take k)) ∧ Blk wr w0.heap.size 70 #[.bool gt, .int .i64 gp, .int .i64 gc, .int .i64 gl, .int .i64 gr] ∧ Rd wr (.slice A ks.length cc) (iN ks) ∧ Chg S w wr))
  case atStart => exact ⟨0, gl, by omega, rfl, rfl, Lib.hid ⟨rfl, HH.out.quiet HW.out.2.2, HBX.out, HW.out.rd, HW.out.2.2.any⟩⟩
  case round =>
    obtain ⟨k, lst, hk, rfl, rfl, HI⟩ := hrel
    obtain ⟨hlst, H1, hbx, hrd, hc⟩ := HI.out
    have hft : ∀ j ∈ foot (.slice A ks.length cc), j ∉ S := fun j hj hjS => by have := HW0.out.2.1 j hj; have := hSlt.out j hjS; omega
    have hbS : w0.heap.size ∉ S := fun hh => by have := hSlt.out _ hh; have := LB.out; omega
    have HFT := Lib.hid hft
    have HBS := Lib.hid hbS
    have HLST := Lib.hid hlst
    have hln : (c.moved gp gl (ks.take k)).N.length = c.N.length := moved_len ..
    by_cases hlt : k < ks.length
    · obtain ⟨x, hx⟩ : ∃ x, ks[k]? = some x := ⟨_, List.getElem?_eq_getElem hlt⟩
      have hxl := HLK.out x (List.mem_of_getElem? hx)
      obtain ⟨A2, cc2, hv2, _, _, _, hcell⟩ := hrd.open_
      rw [iN_len] at hv2
      injection hv2 with hA _ hcc
      subst hA hcc
      obtain ⟨b2, o2, rfl, hb2, hcb⟩ := hcell k _ (iN_at hx)
      obtain ⟨g3, cN3, hgS, q2, lt, lg, j0, j1, fz, hce, hst⟩ := H1.open3 (k := x) (by rw [hln]; exact hxl)
      obtain ⟨u1, hu1⟩ := hce 1 (by omega)
      obtain ⟨t1, t2⟩ := hst wr (Chg.refl _ _) 1 { (c.moved gp gl (ks.take k)).nd (x : Nat) with par := gp } (.int .i64 gp) (by omega) rfl
      have hup := upd_same_nd (c := c.moved gp gl (ks.take k)) (k := x) (f := fun d => { d with par := gp }) (g := fun _ => { (c.moved gp gl (ks.take k)).nd (x : Nat) with par := gp }) rfl
      rw [← hup] at t1
      replace t1 := t1.quiet ((Chg.refl [] _).drew)
      replace t2 := t2.drew
      have hgb : g3 ≠ w0.heap.size := fun e => hbS (e ▸ hgS)
      have hbx2 : Blk (wr.setCell ⟨g3, x * 5 + 1, none⟩ (.int .i64 gp)).drew w0.heap.size 70 #[.bool gt, .int .i64 gp, .int .i64 gc, .int .i64 gl, .int .i64 gr] := (hbx.far (Ne.symm hgb) _).drew
      have x1 := hbx.cell 1
      have lbx := hbx.lt
      have hcW := hc.trans t2 (fun k hk => .inl hk)
      have hrd2 : Rd (wr.setCell ⟨g3, x * 5 + 1, none⟩ (.int .i64 gp)).drew (.slice (some ⟨b2, o2, none⟩) ks.length cc) (iN ks) := hrd.chg t2 hft
      have hl3 : ((c.moved gp gl (ks.take k)).upd x fun d => { d with par := gp }).N.length = c.N.length := by rw [upd_len]; exact hln
      have hxi : In ((c.moved gp gl (ks.take k)).upd x fun d => { d with par := gp }) ((x : Nat) : Int) := .inr ⟨x, rfl, by rw [hl3]; exact hxl⟩
      have hli : In ((c.moved gp gl (ks.take k)).upd x fun d => { d with par := gp }) lst := by
        rw [hlst]
        rcases lastOr_mem (A := ks.take k) (x := gl) with ⟨_, hh⟩ | ⟨m, hm, hh⟩
        · rw [hh]; exact HIL.out.mono hl3
        · rw [hh]; exact .inr ⟨m, rfl, by rw [hl3]; exact HLK.out m (List.mem_of_mem_take hm)⟩
      have HJ := Lib.hid (join_any t1 (by rw [hl3]; exact hlN) (HIP.out.mono hl3).ix hli.ix hxi.ix)
      have hstep : (((c.moved gp gl (ks.take k)).upd x fun d => { d with par := gp }).join gp lst (x : Nat)) = c.moved gp gl (ks.take (k + 1)) := by
        rw [List.take_add_one, hx]
        show _ = c.moved gp gl (ks.take k ++ [x])
        rw [moved_snoc, hlst]
      rw [hstep] at HJ
      have hlast : ((x : Nat) : Int) = lastOr (ks.take (k + 1)) gl := (lastOr_take hx).symm
      have HLAST := Lib.hid hlast
      have y1 := hbx2.cell 1
      have lby := hbx2.lt
      have HBX2 := Lib.hid hbx2
      have HRD2 := Lib.hid hrd2
      have HCW := Lib.hid hcW
      have k0 : (0 : Int) ≤ (k : Int) := by omega
      have k1 : (k : Int) < (ks.length : Int) := by omega
      simp only [List.getElem?_toArray, List.getElem?_cons_zero, List.getElem?_cons_succ] at x1 y1
      rw [hln] at q2 j1
      clear HI H1 hbx hrd hc hft hbS hlst hln hx hxl hcell hb2 hgS hce hst t1 t2 hup hgb hbx2 hcW hrd2 hl3 hxi hli hstep hlast
      go_wp2
      go_still_tail 9, (by kernel_rfl)
      (try change wpStill _ _ (World.drew _) _ _ _)
      (repeat still_step)
      (try refine wpStill_nil ?_)
      (try change wpList _ _ _ _ _ (World.drew _))
      go_wp2_with (go_at_call 46; (refine HJ.out.mono ?_; rintro e w3 ⟨rfl, H3, hc3⟩; have HH3 := Lib.hid H3; have HC3 := Lib.hid hc3; clear H3 hc3))
      go_roundg (ks.length - k - 1)
      case measure => omega
      case rel => exact ⟨k + 1, (x : Nat), by omega, rfl, by go_num, Lib.hid ⟨HLAST.out, HH3.out, HBX2.out.chg HC3.out HBS.out, HRD2.out.chg HC3.out HFT.out, HCW.out.trans HC3.out (fun k hk => .inl hk)⟩⟩
    · obtain rfl : k = ks.length := by omega
      have et : ks.take ks.length = ks := List.take_length
      rw [et] at hlst H1 hln
      have hli : In (c.moved gp gl ks) lst := by
        rw [hlst]
        rcases lastOr_mem (A := ks) (x := gl) with ⟨_, hh⟩ | ⟨m, hm, hh⟩
        · rw [hh]; exact HIL.out.mono hln
        · rw [hh]; exact .inr ⟨m, rfl, by rw [hln]; exact HLK.out m hm⟩
      have HJ := Lib.hid (join_any H1 (by rw [hln]; exact hlN) (HIP.out.mono hln).ix hli.ix (HIR.out.mono hln).ix)
      obtain ⟨c5, hc5⟩ : ∃ c5, c5 = (c.moved gp gl ks).join gp lst gr := ⟨_, rfl⟩
      rw [← hc5] at HJ
      have hl5 : c5.N.length = c.N.length := by rw [hc5, join_len]; exact hln
      have hF5 : c5.F = c.F := by rw [hc5, join_F, moved_F]
      have HD := Lib.hid (show c.drop n ks = { c5 with N := clr c5.N [n], F := c5.F ++ [n] } by rw [HDR.out, hc5, hlst])
      have x1 := hbx.cell 1
      have x4 := hbx.cell 4
      have lbx := hbx.lt
      simp only [List.getElem?_toArray, List.getElem?_cons_zero, List.getElem?_cons_succ] at x1 x4
      have HFRE := Lib.hid (fun W (hT : TreeAt W h S c5) (v : Value) (hv : Rd W v (iN [n])) (hf : ∀ k ∈ foot v, k ∉ S) => free_any hT hv hf (fun m hm => by simp at hm; subst hm; rw [hl5]; exact HN1.out) (by rw [hl5]; exact hlN) (by simp) (by rw [hF5]; exact hFl))
      have HC := Lib.hid hc
      clear HI H1 hbx hrd hft hbS hlst hln hli hc5 hl5 hF5 et hc
      go_wp2_with (first
        | (go_at_call 46; (refine HJ.out.mono ?_; rintro e w3 ⟨rfl, H3, hc3⟩; have HH3 := Lib.hid H3; have HC3 := Lib.hid (HC.out.trans hc3 (fun k hk => .inl hk)); clear H3 hc3))
        | (go_at_call 43; (refine (HFRE.out _ (HH3.out.quiet ((Chg.refl _ _).alloc _)) _ (Rd.one w3 _) (fun k hk hkS => by simp [foot_some] at hk; subst hk; have := hSlt.out _ hkS; have := HC3.out.size; omega)).mono ?_; rintro e w4 ⟨rfl, hT⟩; have HT := Lib.hid (Turns.trans (S := S) (fun k hk => .inl hk) (HC3.out.alloc _) hT); clear hT)))
      go_ret
      exact ⟨rfl, _, HSIM.out, by rw [HD.out]; exact HT.out⟩
end
end Go.Proofs
end
section
namespace Go.Proofs
open Go.RowKit
set_option linter.unusedVariables false
set_option linter.unusedSimpArgs false

section
variable {w : World} {h : Nat} {S : List Nat} {c : Tr} {t : Fo}
theorem drop_no (H : TreeAt w h S c) (hs : Sim c t) {i : Int} (hi : t.has i = false) :
    Calls Try.prog 26 #[ptr h, .int .i64 i] w fun e w' => e = .returned (.int .i64 4) ∧ Chg [] w w' := by
  have HF := cfind_any H hs i
  unfold Fo.noE at HF
  rw [if_neg (by rw [hi]; simp)] at HF
  clear H hs hi
  go_enter Try.func26, Try.ntmps26
  go_wp2_with (go_at_call 41; refine HF.mono ?_; rintro e w0 ⟨rfl, hc0⟩; have HC0 := Lib.hid hc0; clear hc0)
  go_ret
  exact ⟨rfl, HC0.out⟩
/-- What Drop leaves. -/
def Fo.dropI (t : Fo) (i : Int) : Fo := if t.has i then t.drop i.toNat else t
theorem cdrop_any (H : TreeAt w h S c) (hs : Sim c t) (i : Int) :
    Calls Try.prog 26 #[ptr h, .int .i64 i] w fun e w' => e = .returned (.int .i64 (t.noE i)) ∧ ∃ c', Sim c' (t.dropI i) ∧ Turns h S c' w w' := by
  unfold Fo.dropI Fo.noE
  cases hi : t.has i with
  | false =>
    simp only [Bool.false_eq_true, if_false]
    exact (drop_no H hs hi).mono fun e w' hh => ⟨hh.1, Turns.ret H hs hh.2⟩
  | true =>
    simp only [if_true]
    obtain ⟨n, rfl⟩ : ∃ n : Nat, i = (n : Nat) := Int.eq_ofNat_of_zero_le (by unfold Fo.has at hi; simp at hi; omega)
    rw [t.has_nat] at hi
    rw [Int.toNat_natCast]
    exact drop_ok H hs hi
end
/-! ### Same -/
theorem eq_nd_run (d : Nat) (a b : Nd) (W : World) : (Op.equalIn (d + 3) 70 a.val b.val).run Try.prog W = .ok (decide (a.there = b.there ∧ a.par = b.par ∧ a.child = b.child ∧ a.left = b.left ∧ a.right = b.right)) W := by
  have h1 : Try.prog.underlying 70 = some (.struct (Try.prog.fieldsOf 70)) := by kernel_rfl
  have h2 : Try.prog.stoodInHeld 70 = false := by kernel_rfl
  rw [run_equalIn_agg (ht := h1) (hp := h2)]
  obtain ⟨a0, a1, a2, a3, a4⟩ := a
  obtain ⟨b0, b1, b2, b3, b4⟩ := b
  simp [go_sem, Try.underlying70, Op.eqFields, Try.underlying3, Try.underlying4]
  by_cases e0 : a0 = b0
  · by_cases e1 : a1 = b1
    · by_cases e2 : a2 = b2
      · by_cases e3 : a3 = b3
        · by_cases e4 : a4 = b4
          · simp [e0, e1, e2, e3, e4]
          · simp [e0, e1, e2, e3, e4]
        · simp [e0, e1, e2, e3]
      · simp [e0, e1, e2]
    · simp [e0, e1]
  · simp [e0]
def Nd.eqB (a b : Nd) : Bool := decide (a.there = b.there ∧ a.par = b.par ∧ a.child = b.child ∧ a.left = b.left ∧ a.right = b.right)
theorem Nd.eqB_iff {a b : Nd} : a.eqB b = true ↔ a = b := by
  unfold Nd.eqB
  obtain ⟨a0, a1, a2, a3, a4⟩ := a
  obtain ⟨b0, b1, b2, b3, b4⟩ := b
  simp
theorem neq_nd (a b : Nd) (W : World) : (binOp .neq 70 (.agg #[.bool a.there, .int .i64 a.par, .int .i64 a.child, .int .i64 a.left, .int .i64 a.right]) (.agg #[.bool b.there, .int .i64 b.par, .int .i64 b.child, .int .i64 b.left, .int .i64 b.right])).run Try.prog W = .ok (.bool (!a.eqB b)) W := by
  have := eq_nd_run 9997 a b W
  rw [run_neq_struct]
  simp only [Nd.val] at this
  rw [this]; rfl
section
variable {w : World} {h1 h2 : Nat} {S1 S2 : List Nat} {c1 c2 : Tr}
/-- Have both the same nodes at so many places? -/
def SameTo (c1 c2 : Tr) (n : Nat) : Prop := ∀ k : Nat, k < n → c1.nd (k : Nat) = c2.nd (k : Nat)
set_option maxHeartbeats 1600000 in
set_option maxRecDepth 100000 in
theorem same_any (H1 : TreeAt w h1 S1 c1) (H2 : TreeAt w h2 S2 c2) (n1 : c1.N.length ≤ 4096) (n2 : c2.N.length ≤ 4096) (z1 : c1.size ≤ 4096) {b : Bool} (hb : b = true ↔ c1.size = c2.size ∧ SameTo c1 c2 c1.size) :
    Calls Try.prog 18 #[ptr h1, ptr h2] w fun e w' => e = .returned (.bool b) ∧ Chg [] w w' := by
  have HS1 := Lib.hid (fun W (hc : Chg [] w W) => size_any (H1.quiet hc))
  have HS2 := Lib.hid (fun W (hc : Chg [] w W) => size_any (H2.quiet hc))
  have HA1 := Lib.hid (fun W (hc : Chg [] w W) i => at_any (H1.quiet hc) n1 i)
  have HA2 := Lib.hid (fun W (hc : Chg [] w W) i => at_any (H2.quiet hc) n2 i)
  simp only [Nd.val] at HA1 HA2
  obtain ⟨s1, hs1⟩ : ∃ s1, s1 = c1.size := ⟨_, rfl⟩
  obtain ⟨s2, hs2⟩ : ∃ s2, s2 = c2.size := ⟨_, rfl⟩
  rw [← hs1] at HS1 hb z1
  rw [← hs2] at HS2 hb
  have HB := Lib.hid hb
  clear H1 H2 hs1 hs2 hb
  by_cases hss : s1 = s2
  · subst hss
    have hne : ((s1 : Int) != (s1 : Int)) = false := by simp
    go_enter Try.func18, Try.ntmps18
    go_wp2_with (first
      | (go_at_call 31; (with_reducible refine (HS1.out _ (Chg.refl _ _)).mono ?_); rintro e w' ⟨rfl, rfl⟩)
      | (go_at_call 31; (with_reducible refine (HS2.out _ (Chg.refl _ _)).mono ?_); rintro e w' ⟨rfl, rfl⟩))
    go_loopg [13] s1 (fun gh iv wr => ∃ k : Nat, k + gh = s1 ∧ iv = .int .i64 k ∧ Hid (SameTo c1 c2 k ∧ Chg [] w wr))
    case atStart => exact ⟨0, by omega, rfl, Lib.hid ⟨fun k hk => by omega, Chg.refl _ _⟩⟩
    case round =>
      obtain ⟨k, hk, rfl, HI⟩ := hrel
      obtain ⟨hst, hc⟩ := HI.out
      by_cases hlt : k < s1
      · have HX1 := Lib.hid (HA1.out wr hc (k : Nat))
        have HX2 := Lib.hid (fun W (hc2 : Chg [] wr W) => HA2.out W (hc.then hc2) (k : Nat))
        obtain ⟨d1, hd1⟩ : ∃ d, d = c1.nd (k : Nat) := ⟨_, rfl⟩
        obtain ⟨d2, hd2⟩ : ∃ d, d = c2.nd (k : Nat) := ⟨_, rfl⟩
        rw [← hd1] at HX1
        rw [← hd2] at HX2
        have HN := Lib.hid (neq_nd d1 d2)
        cases he : d1.eqB d2 with
        | true =>
          have hst' : SameTo c1 c2 (k + 1) := fun j hj => by
            by_cases e : j = k
            · subst e; rw [← hd1, ← hd2]; exact Nd.eqB_iff.1 he
            · exact hst j (by omega)
          have HST := Lib.hid hst'
          have HC := Lib.hid hc
          have hn := HN.out
          rw [he] at hn
          clear hst' hst hc HI hd1 hd2 he HN
          go_wp2_with (first
            | (go_at_call 44; (with_reducible refine HX1.out.mono ?_); rintro e w1 ⟨rfl, hc1⟩; have HC1 := Lib.hid hc1; clear hc1)
            | (go_at_call 44; (with_reducible refine (HX2.out _ HC1.out).mono ?_); rintro e w2 ⟨rfl, hc2⟩; have HC2 := Lib.hid (HC.out.then (HC1.out.then hc2)); clear hc2))
          go_roundg (s1 - k - 1)
          case measure => omega
          case rel => exact ⟨k + 1, by omega, by go_num, Lib.hid ⟨HST.out, HC2.out⟩⟩
        | false =>
          have hbf : b = false := by
            cases hbb : b with
            | false => rfl
            | true =>
              have h9 := (HB.out.1 hbb).2 k hlt
              rw [← hd1, ← hd2] at h9
              rw [Nd.eqB_iff.2 h9] at he
              cases he
          have HBF := Lib.hid hbf
          have HC := Lib.hid hc
          have hn := HN.out
          rw [he] at hn
          clear hst hc HI hd1 hd2 he HN hbf
          go_wp2_with (first
            | (go_at_call 44; (with_reducible refine HX1.out.mono ?_); rintro e w1 ⟨rfl, hc1⟩; have HC1 := Lib.hid hc1; clear hc1)
            | (go_at_call 44; (with_reducible refine (HX2.out _ HC1.out).mono ?_); rintro e w2 ⟨rfl, hc2⟩; have HC2 := Lib.hid (HC.out.then (HC1.out.then hc2)); clear hc2))
          go_ret
          exact ⟨by rw [HBF.out]; rfl, HC2.out⟩
      · obtain rfl : k = s1 := by omega
        have hbt : b = true := HB.out.2 (by first | exact ⟨rfl, hst⟩ | exact ⟨trivial, hst⟩)
        have HBF := Lib.hid hbt
        have HC := Lib.hid hc
        clear hst hc HI hbt
        go_wp2
        go_ret
        exact ⟨by rw [HBF.out]; rfl, HC.out⟩
  · have hne : ((s1 : Int) != (s2 : Int)) = true := by simp; omega
    have hbf : b = false := by
      cases hbb : b with
      | false => rfl
      | true => exact absurd (HB.out.1 hbb).1 hss
    have HBF := Lib.hid hbf
    clear HB hss hbf
    go_enter Try.func18, Try.ntmps18
    go_wp2_with (first
      | (go_at_call 31; (with_reducible refine (HS1.out _ (Chg.refl _ _)).mono ?_); rintro e w' ⟨rfl, rfl⟩)
      | (go_at_call 31; (with_reducible refine (HS2.out _ (Chg.refl _ _)).mono ?_); rintro e w' ⟨rfl, rfl⟩))
    go_ret
    exact ⟨by rw [HBF.out]; rfl, Chg.refl _ _⟩
end
end Go.Proofs
end
section
namespace Go.Proofs
open Go.RowKit
set_option linter.unusedVariables false
set_option linter.unusedSimpArgs false

/-- Have both as many places, and the same nodes, parents, orders? -/
structure Alike (a b : Fo) : Prop where
  size : a.size = b.size
  roots : a.roots = b.roots
  there : ∀ n, a.there n = b.there n
  par : ∀ n, a.par n = b.par n
  kids : ∀ n, a.kids n = b.kids n
theorem Alike.row {a b : Fo} (h : Alike a b) (o : Option Nat) : a.row o = b.row o := by
  cases o with
  | none => exact h.roots
  | some n => exact h.kids n
theorem Alike.refl (a : Fo) : Alike a a := ⟨rfl, rfl, fun _ => rfl, fun _ => rfl, fun _ => rfl⟩
theorem Alike.symm {a b : Fo} (h : Alike a b) : Alike b a := ⟨h.size.symm, h.roots.symm, fun n => (h.there n).symm, fun n => (h.par n).symm, fun n => (h.kids n).symm⟩
theorem oI_inj {a b : Option Nat} (h : oI a = oI b) : a = b := by
  cases a with
  | none =>
    cases b with
    | none => rfl
    | some y => have e : (-1 : Int) = ((y : Nat) : Int) := h; omega
  | some x =>
    cases b with
    | none => have e : ((x : Nat) : Int) = -1 := h; omega
    | some y => have e : ((x : Nat) : Int) = ((y : Nat) : Int) := h; exact congrArg some (by omega)
theorem Lk.det {c1 c2 : Tr} (hn : ∀ k : Nat, c1.nd (k : Nat) = c2.nd (k : Nat)) : ∀ {l1 l2 : List Nat} {p1 p2 : Int}, Lk c1 p1 l1 (-1) → Lk c2 p2 l2 (-1) → hdI l1 = hdI l2 → l1 = l2
  | [], l2, _, _, _, _, h => by
    cases l2 with
    | nil => rfl
    | cons y l => have e : (-1 : Int) = ((y : Nat) : Int) := h; omega
  | x :: l1, l2, p1, p2, h1, h2, h => by
    cases l2 with
    | nil => have e : ((x : Nat) : Int) = -1 := h; omega
    | cons y l2 =>
      have e : ((x : Nat) : Int) = ((y : Nat) : Int) := h
      have e : x = y := by omega
      subst e
      have := Lk.det hn h1.2.2 h2.2.2 (by rw [show hdI l1 = _ from h1.2.1.symm, show hdI l2 = _ from h2.2.1.symm, hn])
      rw [this]
theorem Lk.both {c1 c2 : Tr} : ∀ {l : List Nat} {pv nx : Int}, Lk c1 pv l nx → Lk c2 pv l nx → ∀ x ∈ l, (c1.nd (x : Nat)).left = (c2.nd (x : Nat)).left ∧ (c1.nd (x : Nat)).right = (c2.nd (x : Nat)).right
  | [], _, _, _, _, x, hx => by cases hx
  | y :: l, pv, nx, h1, h2, x, hx => by
    rcases List.mem_cons.1 hx with rfl | hx
    · exact ⟨h1.1.trans h2.1.symm, h1.2.1.trans h2.2.1.symm⟩
    · exact Lk.both h1.2.2 h2.2.2 x hx
theorem Lk.first {c : Tr} : ∀ {l : List Nat} {pv nx : Int}, Lk c pv l nx → ∀ x ∈ l, (c.nd (x : Nat)).left = -1 → (∃ y : Nat, pv = (y : Nat)) → False
  | [], _, _, _, x, hx, _, _ => by cases hx
  | y :: l, pv, nx, h, x, hx, hl, ⟨z, hz⟩ => by
    rcases List.mem_cons.1 hx with rfl | hx
    · have := h.1; rw [hl, hz] at this; omega
    · exact Lk.first h.2.2 x hx hl ⟨y, rfl⟩
theorem nd_ext {a b : Nd} (h0 : a.there = b.there) (h1 : a.par = b.par) (h2 : a.child = b.child) (h3 : a.left = b.left) (h4 : a.right = b.right) : a = b := by
  obtain ⟨p0, p1, p2, p3, p4⟩ := a
  obtain ⟨q0, q1, q2, q3, q4⟩ := b
  simp only at h0 h1 h2 h3 h4
  rw [h0, h1, h2, h3, h4]
section
variable {c1 c2 : Tr} {t1 t2 : Fo}
theorem Sim.head_of (h : Sim c2 t2) {x : Nat} (ht : t2.there x = true) (hp : t2.par x = none) (hl : (c2.nd (x : Nat)).left = -1) : hdI t2.roots = (x : Nat) := by
  have hm := h.wf.mem x ht
  rw [hp] at hm
  have hm : x ∈ t2.roots := hm
  have hk : Lk c2 (-1) t2.roots (-1) := h.links none
  cases hr : t2.roots with
  | nil => rw [hr] at hm; cases hm
  | cons y l =>
    rw [hr] at hm hk
    rcases List.mem_cons.1 hm with rfl | hm
    · rfl
    · exact (hk.2.2.first x hm hl ⟨y, rfl⟩).elim
theorem Sim.nd_all (h1 : Sim c1 t1) (h2 : Sim c2 t2) (hs : t1.size = t2.size) (h : SameTo c1 c2 c1.size) (k : Nat) : c1.nd (k : Nat) = c2.nd (k : Nat) := by
  by_cases hk : k < c1.size
  · exact h k hk
  · have e1 := h1.size
    have e2 := h1.len
    have e3 := h2.len
    rw [nd_out (by omega), nd_out (by omega)]
theorem same_alike (h1 : Sim c1 t1) (h2 : Sim c2 t2) : (c1.size = c2.size ∧ SameTo c1 c2 c1.size) ↔ Alike t1 t2 := by
  constructor
  · rintro ⟨hs, hsame⟩
    have hts : t1.size = t2.size := by rw [← h1.size, ← h2.size, hs]
    have hn := h1.nd_all h2 hts hsame
    have hth : ∀ n, t1.there n = t2.there n := fun n => by
      rw [← t1.has_nat, ← t2.has_nat, ← h1.has, ← h2.has, hn]
    have hpar : ∀ n, t1.par n = t2.par n := fun n => by
      cases ht : t1.there n with
      | false =>
        rw [(h1.wf.off n ht).2, (h2.wf.off n (by rw [← hth]; exact ht)).2]
      | true =>
        have e1 := (h1.node n ht).2.2.1
        have e2 := (h2.node n (by rw [← hth]; exact ht)).2.2.1
        exact oI_inj (by rw [← e1, ← e2, hn])
    have hroots : t1.roots = t2.roots := by
      refine Lk.det hn (h1.links none) (h2.links none) ?_
      show hdI t1.roots = hdI t2.roots
      cases hr : t1.roots with
      | cons x l =>
        have hx : x ∈ t1.row none := by show x ∈ t1.roots; rw [hr]; simp
        obtain ⟨q1, q2⟩ := h1.wf.par none x hx
        have hk : Lk c1 (-1) t1.roots (-1) := h1.links none
        rw [hr] at hk
        rw [h2.head_of (x := x) (by rw [← hth]; exact q1) (by rw [← hpar]; exact q2) (by rw [← hn]; exact hk.1)]
        rfl
      | nil =>
        cases hr2 : t2.roots with
        | nil => rfl
        | cons x l =>
          have hx : x ∈ t2.row none := by show x ∈ t2.roots; rw [hr2]; simp
          obtain ⟨q1, q2⟩ := h2.wf.par none x hx
          have hm := h1.wf.mem x (by rw [hth]; exact q1)
          rw [hpar, q2] at hm
          have hm : x ∈ t1.roots := hm
          rw [hr] at hm
          cases hm
    refine ⟨hts, hroots, hth, hpar, fun n => ?_⟩
    cases ht : t1.there n with
    | false => rw [(h1.wf.off n ht).1, (h2.wf.off n (by rw [← hth]; exact ht)).1]
    | true =>
      refine Lk.det hn (h1.links (some n)) (h2.links (some n)) ?_
      have e1 := (h1.node n ht).2.2.2
      have e2 := (h2.node n (by rw [← hth]; exact ht)).2.2.2
      show hdI (t1.kids n) = hdI (t2.kids n)
      rw [← e1, ← e2, hn]
  · intro ha
    refine ⟨by rw [h1.size, h2.size, ha.size], fun k _ => ?_⟩
    cases ht : t1.there k with
    | false => rw [h1.off k ht, h2.off k (by rw [← ha.there]; exact ht)]
    | true =>
      have ht2 : t2.there k = true := by rw [← ha.there]; exact ht
      obtain ⟨_, a1, a2, a3⟩ := h1.node k ht
      obtain ⟨_, b1, b2, b3⟩ := h2.node k ht2
      have hl := (h1.links (t1.par k)).both (by rw [ha.row]; exact h2.links (t1.par k)) k (h1.wf.mem k ht)
      rw [ha.par k] at a2
      rw [ha.kids k] at a3
      have e1 := a1.trans b1.symm
      have e2 := a2.trans b2.symm
      have e3 := a3.trans b3.symm
      exact nd_ext e1 e2 e3 hl.1 hl.2
end
end Go.Proofs
end
section
namespace Go.Proofs
open Go.RowKit
set_option linter.unusedVariables false
set_option linter.unusedSimpArgs false

/-! ### The document's forest in memory -/
/-- A place: is a node there, its parent, its children (and the slice that has them), when it was freed. -/
structure Pl where
  there : Bool
  par : Int
  A : Option Addr
  cc : Nat
  kids : List Nat
  freed : Int
structure Rf where
  L : List Pl
  RA : Option Addr
  Rcc : Nat
  R : List Nat
  T : Int
abbrev Pl.V (p : Pl) : Value := .slice p.A p.kids.length p.cc
abbrev Rf.V (r : Rf) : Value := .slice r.RA r.R.length r.Rcc
def Pl.cells (p : Pl) : List Value := [.bool p.there, .int .i64 p.par, p.V, .int .i64 p.freed]
def plCells (l : List Pl) : List Value := l.flatMap Pl.cells
theorem plCells_len (l : List Pl) : (plCells l).length = l.length * 4 := flat_len (enc := Pl.cells) (s := 4) (fun _ => rfl) l
theorem plCells_append (l l' : List Pl) : plCells (l ++ l') = plCells l ++ plCells l' := by unfold plCells; simp
theorem plCells_at (l : List Pl) (k : Nat) (p : Pl) (h : l[k]? = some p) : (plCells l)[k * 4]? = some (.bool p.there) ∧ (plCells l)[k * 4 + 1]? = some (.int .i64 p.par) ∧ (plCells l)[k * 4 + 2]? = some p.V ∧ (plCells l)[k * 4 + 3]? = some (.int .i64 p.freed) := by
  have e := fun j u => flat_at (enc := Pl.cells) (s := 4) (fun _ => rfl) (j := j) (u := u) h
  exact ⟨e 0 _ rfl, e 1 _ rfl, e 2 _ rfl, e 3 _ rfl⟩
theorem pl_set {l : List Pl} {k : Nat} {p p' : Pl} {j : Nat} {u : Value} (h : l[k]? = some p) (hy : p'.cells = p.cells.set j u) (hj : j < 4) : plCells (l.set k p') = (plCells l).set (k * 4 + j) u :=
  flat_set (enc := Pl.cells) (s := 4) (fun _ => rfl) l k p p' j u h hy hj
/-- The four cells of a place, set in memory. -/
abbrev put4 (w : World) (g o : Nat) (b : Bool) (p : Int) (v : Value) (f : Int) : World := (((w.setCell ⟨g, o, none⟩ (.bool b)).setCell ⟨g, o + 1, none⟩ (.int .i64 p)).setCell ⟨g, o + 2, none⟩ v).setCell ⟨g, o + 3, none⟩ (.int .i64 f)
theorem pl_put {l : List Pl} {k : Nat} (p : Pl) : k < l.length → plCells (l.set k p) = ((((plCells l).set (k * 4) (.bool p.there)).set (k * 4 + 1) (.int .i64 p.par)).set (k * 4 + 2) p.V).set (k * 4 + 3) (.int .i64 p.freed) := by
  induction l generalizing k with
  | nil => intro h; simp at h
  | cons a l ih =>
    intro h
    cases k with
    | zero => simp [plCells, Pl.cells]
    | succ k =>
      have := ih (k := k) (by simpa using h)
      unfold plCells at this ⊢
      rw [List.set_cons_succ, List.flatMap_cons, List.flatMap_cons, this]
      have e : ∀ (m : List Value) (j : Nat) (u : Value), (Pl.cells a ++ m).set ((k + 1) * 4 + j) u = Pl.cells a ++ m.set (k * 4 + j) u := fun m j u => by
        rw [List.set_append_right _ _ (by simp [Pl.cells]; omega)]
        simp [Pl.cells]; congr 1; omega
      have e0 := fun m u => e m 0 u
      simp only [Nat.add_zero] at e0
      rw [e0, e, e, e]
theorem chg_put4 {S : List Nat} {a w : World} {g : Nat} (h : Chg S a w) (hg : g ∈ S ∨ a.heap.size ≤ g) (o : Nat) (b : Bool) (p : Int) (v : Value) (f : Int) : Chg S a (put4 w g o b p v f) :=
  (((h.setCell (p := ⟨g, o, none⟩) hg _).setCell (p := ⟨g, o + 1, none⟩) hg _).setCell (p := ⟨g, o + 2, none⟩) hg _).setCell (p := ⟨g, o + 3, none⟩) hg _
theorem Row.put4_ {w : World} {e : TypeId} {n g cap : Nat} {l : List Pl} (h : Row w e 4 (.slice (some ⟨g, 0, none⟩) n cap) n (plCells l)) {k : Nat} (hk : k < n) (hl : l.length = n) (p : Pl) :
    Row (put4 w g (k * 4) p.there p.par p.V p.freed) e 4 (.slice (some ⟨g, 0, none⟩) n cap) n (plCells (l.set k p)) := by
  rw [pl_put p (by omega)]
  exact (((h.set_ (j := k * 4) (by omega) _).set_ (j := k * 4 + 1) (by omega) _).set_ (j := k * 4 + 2) (by omega) _).set_ (j := k * 4 + 3) (by omega) _
/-- The document's forest: T are the blocks that calls turn, K those of its rows, which no call turns. -/
def RefAt (w : World) (h : Nat) (T K : List Nat) (r : Rf) : Prop :=
  ∃ g cl, Blk w h 60 #[.slice (some ⟨g, 0, none⟩) r.L.length cl, r.V, .int .i64 r.T] ∧ Row w 62 4 (.slice (some ⟨g, 0, none⟩) r.L.length cl) r.L.length (plCells r.L) ∧
    (∀ p ∈ r.L, Rd w p.V (iN p.kids) ∧ ∀ k ∈ foot p.V, k ∈ K) ∧ Rd w r.V (iN r.R) ∧ (∀ k ∈ foot r.V, k ∈ K) ∧ (∀ k ∈ K, ∃ cs, Blk w k 3 cs) ∧ T = [h, g] ∧ (∃ cs, Blk w g 62 cs)
section
variable {w w' : World} {h : Nat} {T K : List Nat} {r : Rf}
theorem RefAt.ltT (H : RefAt w h T K r) : ∀ k ∈ T, k < w.heap.size := by
  obtain ⟨g, cl, hB, hL, hP, hR, hRK, hK, rfl, cs, hG⟩ := H
  intro k hk
  simp only [List.mem_cons, List.not_mem_nil, or_false] at hk
  rcases hk with rfl | rfl
  · exact hB.lt
  · exact hG.lt
theorem RefAt.ltK (H : RefAt w h T K r) : ∀ k ∈ K, k < w.heap.size := by
  obtain ⟨g, cl, hB, hL, hP, hR, hRK, hK, rfl, _⟩ := H
  intro k hk
  obtain ⟨cs, hb⟩ := hK k hk
  exact hb.lt
theorem RefAt.mem (H : RefAt w h T K r) : h ∈ T := by obtain ⟨g, cl, hB, hL, hP, hR, hRK, hK, rfl, _⟩ := H; simp
theorem RefAt.apart (H : RefAt w h T K r) : ∀ k ∈ T, k ∉ K := by
  obtain ⟨g, cl, hB, hL, hP, hR, hRK, hK, rfl, cs0, hG⟩ := H
  intro k hk hkK
  obtain ⟨cs, hb⟩ := hK k hkK
  simp only [List.mem_cons, List.not_mem_nil, or_false] at hk
  rcases hk with rfl | rfl
  · exact Blk.ty hB hb (by decide) rfl
  · exact Blk.ty hG hb (by decide) rfl
theorem RefAt.chg {S' : List Nat} (H : RefAt w h T K r) (hc : Chg S' w w') (hT : ∀ k ∈ T, k ∉ S') (hKS : ∀ k ∈ K, k ∉ S') : RefAt w' h T K r := by
  obtain ⟨g, cl, hB, hL, hP, hR, hRK, hK, rfl, cs0, hG⟩ := H
  exact ⟨g, cl, hB.chg hc (hT h (by simp)), hL.chg hc (fun k hk => hT k (by simp [foot_some] at hk; simp [hk])), fun p hp => ⟨(hP p hp).1.chg hc (fun k hk => hKS k ((hP p hp).2 k hk)), (hP p hp).2⟩, hR.chg hc (fun k hk => hKS k (hRK k hk)), hRK, fun k hk => by obtain ⟨cs, hb⟩ := hK k hk; exact ⟨cs, hb.chg hc (hKS k hk)⟩, rfl, cs0, hG.chg hc (hT g (by simp))⟩
theorem RefAt.quiet (H : RefAt w h T K r) (hc : Chg [] w w') : RefAt w' h T K r := H.chg hc (fun _ _ hk => by cases hk) (fun _ _ hk => by cases hk)
end
/-- What a call on the document's forest leaves. -/
def RTurns (h : Nat) (T K : List Nat) (r' : Rf) (w w' : World) : Prop := ∃ K', RefAt w' h T K' r' ∧ (∀ k ∈ K', k ∈ K ∨ w.heap.size ≤ k) ∧ Chg T w w'
section
variable {h : Nat} {T K : List Nat} {r : Rf} {a b d : World}
theorem RTurns.refl (H : RefAt a h T K r) (hc : Chg [] a b) : RTurns h T K r a b := ⟨K, H.quiet hc, fun k hk => .inl hk, hc.any⟩
theorem RTurns.later (H : RTurns h T K r a b) (hc : Chg [] b d) : RTurns h T K r a d := by
  obtain ⟨K', h1, h2, h3⟩ := H
  exact ⟨K', h1.quiet hc, h2, h3.then hc⟩
theorem RTurns.earlier (H : RTurns h T K r b d) (hc : Chg [] a b) : RTurns h T K r a d := by
  obtain ⟨K', h1, h2, h3⟩ := H
  exact ⟨K', h1, fun k hk => (h2 k hk).imp id (fun h => Nat.le_trans hc.size h), (Chg.any hc).trans h3 (fun k hk => .inl hk)⟩
theorem RTurns.trans {K1 : List Nat} {r2 : Rf} (hK : ∀ k ∈ K1, k ∈ K ∨ a.heap.size ≤ k) (hc : Chg T a b) (H : RTurns h T K1 r2 b d) : RTurns h T K r2 a d := by
  obtain ⟨K', h1, h2, h3⟩ := H
  refine ⟨K', h1, fun k hk => ?_, hc.trans h3 (fun k hk => .inl hk)⟩
  rcases h2 k hk with h | h
  · exact hK k h
  · exact .inr (Nat.le_trans hc.size h)
end
section
variable {w : World} {h : Nat} {T K : List Nat} {r : Rf}
/-- What there is at a place, in every world in which nothing turned. -/
theorem RefAt.tell (H : RefAt w h T K r) : ∃ g cl, g ∈ T ∧ g ≠ h ∧ r.L.length ≤ cl ∧ ∀ W, Chg [] w W →
    W.cell? ⟨h, 0, none⟩ = some (.slice (some ⟨g, 0, none⟩) r.L.length cl) ∧ W.cell? ⟨h, 1, none⟩ = some r.V ∧ W.cell? ⟨h, 2, none⟩ = some (.int .i64 r.T) ∧ h < W.heap.size ∧ g < W.heap.size ∧ (∀ j, W.frozen? ⟨g, j, none⟩ = false) ∧ (∀ j, W.frozen? ⟨h, j, none⟩ = false) ∧
    ∀ (k : Nat) (p : Pl), r.L[k]? = some p → W.cell? ⟨g, k * 4, none⟩ = some (.bool p.there) ∧ W.cell? ⟨g, k * 4 + 1, none⟩ = some (.int .i64 p.par) ∧ W.cell? ⟨g, k * 4 + 2, none⟩ = some p.V ∧ W.cell? ⟨g, k * 4 + 3, none⟩ = some (.int .i64 p.freed) := by
  obtain ⟨g, cl, hB, hL, hP, hR, hRK, hK, rfl, cs0, hG⟩ := H
  have hcl : r.L.length ≤ cl := by
    rcases hL.2 with ⟨h0, _⟩ | ⟨g', cap, cur, hv, _, hc, _⟩
    · cases h0
    · injection hv with _ _ hv; omega
  have hne : g ≠ h := Blk.ty hG hB (by decide)
  refine ⟨g, cl, by simp, hne, hcl, fun W hc => ?_⟩
  have hB' := hB.chg hc (by simp)
  have hG' := hG.chg hc (by simp)
  refine ⟨hB'.cell 0, hB'.cell 1, hB'.cell 2, hB'.lt, hG'.lt, hG'.frozen, hB'.frozen, fun k p hp => ?_⟩
  obtain ⟨g2, cap, hv, _, _, hcell, _, _⟩ := hL.form (by have := (List.getElem?_eq_some_iff.1 hp).1; omega)
  injection hv with hv _ _
  injection hv with hv
  injection hv with hv _ _
  subst hv
  have e : ∀ o, W.cell? ⟨g, o, none⟩ = w.cell? ⟨g, o, none⟩ := fun o => hc.cell (p := ⟨g, o, none⟩) hG.lt (by simp)
  obtain ⟨c0, c1, c2, c3⟩ := plCells_at r.L k p hp
  exact ⟨(e _).trans (hcell _ _ c0), (e _).trans (hcell _ _ c1), (e _).trans (hcell _ _ c2), (e _).trans (hcell _ _ c3)⟩
/-- A place is another one now. -/
theorem RefAt.write (H : RefAt w h T K r) {g cl k : Nat} {W2 : World} {p' : Pl} (hv : w.cell? ⟨h, 0, none⟩ = some (.slice (some ⟨g, 0, none⟩) r.L.length cl)) (h2 : Chg [g] w W2)
    (hrow : Row w 62 4 (.slice (some ⟨g, 0, none⟩) r.L.length cl) r.L.length (plCells r.L) → Row W2 62 4 (.slice (some ⟨g, 0, none⟩) r.L.length cl) r.L.length (plCells (r.L.set k p')))
    (hG2 : ∃ cs, Blk W2 g 62 cs) {K' : List Nat} (hK1 : ∀ x ∈ K, x ∈ K') (hK2 : ∀ x ∈ K', ∃ cs, Blk w x 3 cs) (hp : Rd w p'.V (iN p'.kids) ∧ ∀ x ∈ foot p'.V, x ∈ K') :
    RefAt W2 h T K' { r with L := r.L.set k p' } ∧ Chg T w W2 := by
  obtain ⟨g0, cl0, hB, hL, hP, hR, hRK, hK, rfl, cs0, hG⟩ := H
  have e := hB.cell 0
  simp only [List.getElem?_toArray, List.getElem?_cons_zero] at e
  rw [e] at hv
  simp only [Option.some.injEq, Value.slice.injEq, Addr.mk.injEq, and_true, true_and] at hv
  obtain ⟨rfl, rfl⟩ := hv
  have hne : h ≠ g0 := Blk.ty hB hG (by decide)
  have hgK : ∀ x ∈ K', x ∉ [g0] := fun x hx hm => by
    simp at hm
    subst hm
    obtain ⟨cs, hb⟩ := hK2 x hx
    exact Blk.ty hG hb (by decide) rfl
  have hr2 := hrow hL
  refine ⟨⟨g0, cl0, by simpa using hB.chg h2 (by simpa using hne), by simpa using hr2, fun p hpm => ?_, hR.chg h2 (fun x hx => hgK x (hK1 x (hRK x hx))), fun x hx => hK1 x (hRK x hx), fun x hx => ?_, rfl, hG2⟩, h2.mono (fun x hx => .inl (by simp at hx; simp [hx]))⟩
  · rcases List.mem_or_eq_of_mem_set hpm with h9 | rfl
    · exact ⟨(hP p h9).1.chg h2 (fun x hx => hgK x (hK1 x ((hP p h9).2 x hx))), fun x hx => hK1 x ((hP p h9).2 x hx)⟩
    · exact ⟨hp.1.chg h2 (fun x hx => hgK x (hp.2 x hx)), hp.2⟩
  · obtain ⟨cs, hb⟩ := hK2 x hx
    exact ⟨cs, hb.chg h2 (hgK x hx)⟩
end
end Go.Proofs
end
section
namespace Go.Proofs
open Go.RowKit
set_option linter.unusedVariables false
set_option linter.unusedSimpArgs false

/-- When a place was freed. -/
def fr (r : Rf) (n : Nat) : Int := match r.L[n]? with | some p => p.freed | none => 0
/-- The document's forest is the plain one, behind at most m acts. -/
structure RSim (r : Rf) (t : Fo) (m : Nat) : Prop where
  len : r.L.length = t.size
  big : t.size ≤ 4096
  wf : t.WF
  pl : ∀ n p, r.L[n]? = some p → p.there = t.there n ∧ p.kids = t.kids n ∧ p.par = oI (t.par n)
  roots : r.R = t.roots
  ord : t.free.Pairwise (fun a b => fr r b < fr r a)
  top : ∀ n ∈ t.free, fr r n ≤ r.T
  time : 0 ≤ r.T ∧ r.T ≤ 4096 * (m : Int)
theorem RSim.more {r : Rf} {t : Fo} {m m' : Nat} (h : RSim r t m) (hm : m ≤ m') : RSim r t m' := { h with time := ⟨h.time.1, by have := h.time.2; omega⟩ }
theorem RSim.get {r : Rf} {t : Fo} {m : Nat} (h : RSim r t m) {n : Nat} (hn : n < t.size) : ∃ p, r.L[n]? = some p ∧ p.there = t.there n ∧ p.kids = t.kids n ∧ p.par = oI (t.par n) := by
  obtain ⟨p, hp⟩ : ∃ p, r.L[n]? = some p := ⟨_, List.getElem?_eq_getElem (by rw [h.len]; exact hn)⟩
  exact ⟨p, hp, h.pl n p hp⟩
section
variable {w : World} {h : Nat} {T K : List Nat} {r : Rf} {t : Fo} {m : Nat}
theorem rhas_any (H : RefAt w h T K r) (hs : RSim r t m) (i : Int) : Calls Try.prog 17 #[ptr h, .int .i64 i] w fun e w' => e = .returned (.bool (t.has i)) ∧ w = w' := by
  obtain ⟨g, cl, _, hne, hcl, htell⟩ := H.tell
  obtain ⟨a0, a1, a2, lh, lg, fg, fh, hpl⟩ := htell w (Chg.refl _ _)
  have hn := hs.len
  have hb := hs.big
  by_cases h0 : i < 0
  · rw [t.has_neg h0]
    have d0 : decide (0 ≤ i) = false := by simp; omega
    clear H hs htell hpl hn
    go_enter Try.func17, Try.ntmps17
    go_wp2
    go_ret
    exact ⟨rfl, rfl⟩
  · obtain ⟨k, rfl⟩ := Int.eq_ofNat_of_zero_le (by omega : 0 ≤ i)
    have d0 : decide (0 ≤ (k : Int)) = true := by simp
    rw [t.has_nat]
    obtain ⟨s, hss⟩ : ∃ s, s = r.L.length := ⟨_, rfl⟩
    rw [← hss] at a0 hcl hn
    by_cases h1 : k < s
    · obtain ⟨p, hp, q1, q2, q3⟩ := hs.get (n := k) (by omega)
      obtain ⟨b0, _⟩ := hpl k p hp
      rw [q1] at b0
      obtain ⟨x, hx⟩ : ∃ x, x = t.there k := ⟨_, rfl⟩
      rw [← hx] at b0 ⊢
      have d1 : decide ((k : Int) < (s : Int)) = true := by simp; omega
      have i0 : (0 : Int) ≤ (k : Int) := by omega
      have i1 : (k : Int) < (s : Int) := by omega
      clear H hs htell hpl hn hx q1 q2 q3 hp hss
      cases x with
      | true =>
        go_enter Try.func17, Try.ntmps17
        go_wp2
        go_ret
        exact ⟨rfl, rfl⟩
      | false =>
        go_enter Try.func17, Try.ntmps17
        go_wp2
        go_ret
        exact ⟨rfl, rfl⟩
    · have hx : t.there k = false := by
        cases hh : t.there k with
        | false => rfl
        | true => have := hs.wf.lt k hh; omega
      rw [hx]
      have d1 : decide ((k : Int) < (s : Int)) = false := by simp; omega
      clear H hs htell hpl hn hx hss
      go_enter Try.func17, Try.ntmps17
      go_wp2
      go_ret
      exact ⟨rfl, rfl⟩
/-- The slice that has a row. -/
theorem rrow_any (H : RefAt w h T K r) (hs : RSim r t m) {o : Option Nat} (ho : ∀ p, o = some p → t.there p = true) :
    Calls Try.prog 50 #[ptr h, .int .i64 (oI o)] w fun e w' => w = w' ∧ ∃ A cc, e = .returned (.slice A (t.row o).length cc) ∧ Rd w (.slice A (t.row o).length cc) (iN (t.row o)) ∧ ∀ k ∈ foot (.slice A (t.row o).length cc), k ∈ K := by
  have H0 := H
  obtain ⟨g, cl, _, hne, hcl, htell⟩ := H.tell
  obtain ⟨a0, a1, a2, lh, lg, fg, fh, hpl⟩ := htell w (Chg.refl _ _)
  obtain ⟨_, _, _, _, hP, hR, hRK, _, _, _⟩ := H0
  cases o with
  | none =>
    have hroots := hs.roots
    have HQ := Lib.hid (show Rd w (.slice r.RA (t.row none).length r.Rcc) (iN (t.row none)) ∧ ∀ k ∈ foot (.slice r.RA (t.row none).length r.Rcc), k ∈ K by
      show Rd w (.slice r.RA t.roots.length r.Rcc) (iN t.roots) ∧ _
      have e : foot (.slice r.RA t.roots.length r.Rcc) = foot r.V := by rw [← hroots]
      exact ⟨hroots ▸ hR, fun k hk => hRK k (e ▸ hk)⟩)
    have a1' : w.cell? ⟨h, 1, none⟩ = some (.slice r.RA (t.row none).length r.Rcc) := by
      show w.cell? ⟨h, 1, none⟩ = some (.slice r.RA t.roots.length r.Rcc)
      rw [← hroots]; exact a1
    show Calls Try.prog 50 #[ptr h, .int .i64 (-1)] w _
    clear H hs htell hpl hP hR hRK hroots a1 a0 a2
    go_enter Try.func50, Try.ntmps50
    go_wp2
    go_ret
    exact ⟨rfl, _, _, rfl, HQ.out⟩
  | some n =>
    have hn := hs.wf.lt n (ho n rfl)
    obtain ⟨p, hp, q1, q2, q3⟩ := hs.get hn
    obtain ⟨_, _, b2, _⟩ := hpl n p hp
    obtain ⟨p1, p2⟩ := hP p (List.mem_of_getElem? hp)
    have hk : t.row (some n) = p.kids := q2.symm
    rw [hk]
    have HQ := Lib.hid (And.intro p1 p2)
    have hlen := hs.len
    have i0 : (0 : Int) ≤ (n : Int) := by omega
    have i1 : (n : Int) < (r.L.length : Int) := by omega
    have d0 : decide ((n : Int) < 0) = false := by simp
    show Calls Try.prog 50 #[ptr h, .int .i64 ((n : Nat) : Int)] w _
    clear H hs htell hpl hP hR hRK p1 p2 q1 q2 q3 hk hp ho hn hlen
    go_enter Try.func50, Try.ntmps50
    go_wp2
    go_ret
    exact ⟨rfl, _, _, rfl, HQ.out⟩
/-- A row is another one. -/
def Rf.setRow (r : Rf) (o : Option Nat) (A : Option Addr) (cc : Nat) (l : List Nat) : Rf :=
  match o with
  | none => { r with RA := A, Rcc := cc, R := l }
  | some n => match r.L[n]? with | some p => { r with L := r.L.set n { p with A := A, cc := cc, kids := l } } | none => r
theorem rset_any (H : RefAt w h T K r) {o : Option Nat} (ho : ∀ p, o = some p → p < r.L.length) {A : Option Addr} {cc : Nat} {l : List Nat} (hV : Rd w (.slice A l.length cc) (iN l)) (hT : ∀ k ∈ foot (.slice A l.length cc), k ∉ T) :
    Calls Try.prog 49 #[ptr h, .int .i64 (oI o), .slice A l.length cc] w fun e w' => e = .returned (.tuple #[]) ∧ RefAt w' h T (K ++ foot (.slice A l.length cc)) (r.setRow o A cc l) ∧ Chg T w w' := by
  have H0 := H
  obtain ⟨g, cl, hgT, hne, hcl, htell⟩ := H.tell
  obtain ⟨a0, a1, a2, lh, lg, fg, fh, hpl⟩ := htell w (Chg.refl _ _)
  have hK2 : ∀ x ∈ K ++ foot (.slice A l.length cc), ∃ cs, Blk w x 3 cs := by
    intro x hx
    rcases List.mem_append.1 hx with hx | hx
    · obtain ⟨_, _, _, _, _, _, _, hK, _⟩ := H0
      exact hK x hx
    · obtain ⟨A', c', hv, _, _, _, h4⟩ := hV
      injection hv with hA _ _
      cases A with
      | none => cases hx
      | some a =>
        obtain ⟨b, o', cs, rfl, hB, _⟩ := h4 _ hA.symm
        simp [foot_some] at hx
        subst hx
        exact ⟨cs, hB⟩
  cases o with
  | none =>
    have HF := Lib.hid (show RefAt (w.setCell ⟨h, 1, none⟩ (.slice A l.length cc)) h T (K ++ foot (.slice A l.length cc)) (r.setRow none A cc l) ∧ Chg T w (w.setCell ⟨h, 1, none⟩ (.slice A l.length cc)) by
      obtain ⟨g0, cl0, hB, hL, hP, hR, hRK, hK, rfl, cs0, hG⟩ := H0
      have hc : Chg [h] w (w.setCell ⟨h, 1, none⟩ (.slice A l.length cc)) := (Chg.refl _ _).setCell (.inl (by simp)) _
      have hhK : ∀ x ∈ K ++ foot (.slice A l.length cc), x ∉ [h] := fun x hx hm => by
        simp at hm
        subst hm
        obtain ⟨cs, hb⟩ := hK2 x hx
        exact Blk.ty hB hb (by decide) rfl
      have hgh : g0 ≠ h := Blk.ty hG hB (by decide)
      refine ⟨⟨g0, cl0, hB.set_ 1 _, hL.chg hc (fun k hk => by simp [foot_some] at hk; subst hk; simpa using hgh), fun p hp => ⟨(hP p hp).1.chg hc (fun k hk => hhK k (by simp [(hP p hp).2 k hk])), fun k hk => by simp [(hP p hp).2 k hk]⟩, hV.chg hc (fun k hk => hhK k (by simp [hk])), fun k hk => by simp [show k ∈ foot (.slice A l.length cc) from hk], fun k hk => ?_, rfl, cs0, hG.chg hc (by simpa using hgh)⟩, hc.mono (fun k hk => .inl (by simp at hk; simp [hk]))⟩
      obtain ⟨cs, hb⟩ := hK2 k hk
      exact ⟨cs, hb.chg hc (hhK k hk)⟩)
    show Calls Try.prog 49 #[ptr h, .int .i64 (-1), .slice A l.length cc] w _
    have fh1 := fh 1
    clear H H0 htell hpl hK2 hV hT a0 a2
    go_enter Try.func49, Try.ntmps49
    go_wp2
    refine bodyPost_ret (results_none rfl _ _ _) rfl ?_
    exact ⟨rfl, HF.out⟩
  | some n =>
    have hn := ho n rfl
    obtain ⟨p, hp⟩ : ∃ p, r.L[n]? = some p := ⟨_, List.getElem?_eq_getElem hn⟩
    obtain ⟨b0, b1, b2, b3⟩ := hpl n p hp
    have HF := Lib.hid (show RefAt (w.setCell ⟨g, n * 4 + 2, none⟩ (.slice A l.length cc)) h T (K ++ foot (.slice A l.length cc)) (r.setRow (some n) A cc l) ∧ Chg T w (w.setCell ⟨g, n * 4 + 2, none⟩ (.slice A l.length cc)) by
      have hs : r.setRow (some n) A cc l = { r with L := r.L.set n { p with A := A, cc := cc, kids := l } } := by unfold Rf.setRow; simp only [hp]
      rw [hs]
      refine H0.write (g := g) (cl := cl) a0 ((Chg.refl _ _).setCell (.inl (by simp)) _) (fun hr => ?_) ?_ (fun x hx => by simp [hx]) hK2 ⟨hV, fun x hx => by simp [show x ∈ foot (.slice A l.length cc) from hx]⟩
      · rw [pl_set (p' := { p with A := A, cc := cc, kids := l }) hp (j := 2) (u := .slice A l.length cc) rfl (by omega)]
        exact hr.set_ (by omega) _
      · obtain ⟨g0, cl0, hB, hL, hP, hR, hRK, hK, hTT, cs0, hG⟩ := H0
        have e := hB.cell 0
        simp only [List.getElem?_toArray, List.getElem?_cons_zero] at e
        rw [e] at a0
        simp only [Option.some.injEq, Value.slice.injEq, Addr.mk.injEq, and_true, true_and] at a0
        obtain ⟨rfl, rfl⟩ := a0
        exact ⟨_, hG.set_ _ _⟩)
    have i0 : (0 : Int) ≤ (n : Int) := by omega
    have i1 : (n : Int) < (r.L.length : Int) := by omega
    have d0 : decide ((n : Int) < 0) = false := by simp
    show Calls Try.prog 49 #[ptr h, .int .i64 ((n : Nat) : Int), .slice A l.length cc] w _
    clear H H0 htell hpl hK2 hV hT hp ho hn
    go_enter Try.func49, Try.ntmps49
    go_wp2
    go_end0
    exact ⟨rfl, HF.out⟩
end
end Go.Proofs
end
section
namespace Go.Proofs
open Go.RowKit
set_option linter.unusedVariables false
set_option linter.unusedSimpArgs false

section
variable {w : World} {h : Nat} {T K : List Nat} {r : Rf} {t : Fo} {m : Nat}
theorem RefAt.timed (H : RefAt w h T K r) (x : Int) : RefAt (w.setCell ⟨h, 2, none⟩ (.int .i64 x)) h T K { r with T := x } ∧ Chg T w (w.setCell ⟨h, 2, none⟩ (.int .i64 x)) := by
  obtain ⟨g0, cl0, hB, hL, hP, hR, hRK, hK, rfl, cs0, hG⟩ := H
  have hc : Chg [h] w (w.setCell ⟨h, 2, none⟩ (.int .i64 x)) := (Chg.refl _ _).setCell (.inl (by simp)) _
  have hhK : ∀ y ∈ K, y ∉ [h] := fun y hy hm => by
    simp at hm
    subst hm
    obtain ⟨cs, hb⟩ := hK y hy
    exact Blk.ty hB hb (by decide) rfl
  have hgh : g0 ≠ h := Blk.ty hG hB (by decide)
  refine ⟨⟨g0, cl0, hB.set_ 2 _, hL.chg hc (fun k hk => by simp [foot_some] at hk; subst hk; simpa using hgh), fun p hp => ⟨(hP p hp).1.chg hc (fun k hk => hhK k ((hP p hp).2 k hk)), (hP p hp).2⟩, hR.chg hc (fun k hk => hhK k (hRK k hk)), hRK, fun k hk => ?_, rfl, cs0, hG.chg hc (by simpa using hgh)⟩, hc.mono (fun k hk => .inl (by simp at hk; simp [hk]))⟩
  obtain ⟨cs, hb⟩ := hK k hk
  exact ⟨cs, hb.chg hc (hhK k hk)⟩
theorem RefAt.put (H : RefAt w h T K r) {g cl k : Nat} (hv : w.cell? ⟨h, 0, none⟩ = some (.slice (some ⟨g, 0, none⟩) r.L.length cl)) (hk : k < r.L.length) (p' : Pl) (hp : Rd w p'.V (iN p'.kids) ∧ ∀ x ∈ foot p'.V, x ∈ K) :
    RefAt (put4 w g (k * 4) p'.there p'.par p'.V p'.freed) h T K { r with L := r.L.set k p' } ∧ Chg T w (put4 w g (k * 4) p'.there p'.par p'.V p'.freed) := by
  have H0 := H
  refine H.write (g := g) (cl := cl) hv (chg_put4 (Chg.refl _ _) (.inl (by simp)) _ _ _ _ _) (fun hr => ?_) ?_ (fun x hx => hx) ?_ hp
  · exact hr.put4_ hk rfl p'
  · obtain ⟨g0, cl0, hB, hL, hP, hR, hRK, hK, hTT, cs0, hG⟩ := H0
    have e := hB.cell 0
    simp only [List.getElem?_toArray, List.getElem?_cons_zero] at e
    rw [e] at hv
    simp only [Option.some.injEq, Value.slice.injEq, Addr.mk.injEq, and_true, true_and] at hv
    obtain ⟨rfl, rfl⟩ := hv
    exact ⟨_, (((hG.set_ _ _).set_ _ _).set_ _ _).set_ _ _⟩
  · obtain ⟨g0, cl0, hB, hL, hP, hR, hRK, hK, hTT, cs0, hG⟩ := H0
    exact hK
def plF (x : Int) : Pl := ⟨false, -1, none, 0, [], x⟩
/-- A place is freed. -/
def Rf.free (r : Rf) (n : Nat) : Rf := { r with L := r.L.set n (plF (r.T + 1)), T := r.T + 1 }
set_option maxHeartbeats 1600000 in
set_option maxRecDepth 100000 in
theorem rfree_any (H : RefAt w h T K r) {n : Nat} (hn : n < r.L.length) (ht : 0 ≤ r.T ∧ r.T < 4611686018427387904) :
    Calls Try.prog 51 #[ptr h, .int .i64 (n : Nat)] w fun e w' => e = .returned (.tuple #[]) ∧ RefAt w' h T K (r.free n) ∧ Chg T w w' := by
  obtain ⟨t1, t2⟩ := H.timed (r.T + 1)
  obtain ⟨g, cl, hgT, hne, hcl, htell⟩ := H.tell
  obtain ⟨a0, a1, a2, lh, lg, fg, fh, hpl⟩ := htell w (Chg.refl _ _)
  obtain ⟨p, hp⟩ : ∃ p, r.L[n]? = some p := ⟨_, List.getElem?_eq_getElem hn⟩
  obtain ⟨b0, b1, b2, b3⟩ := hpl n p hp
  have hhg : h ≠ g := Ne.symm hne
  have c0 : (w.setCell ⟨h, 2, none⟩ (.int .i64 (r.T + 1))).cell? ⟨h, 0, none⟩ = some (.slice (some ⟨g, 0, none⟩) r.L.length cl) := by
    rw [World.cell?_setCell_other (h := by simp)]; exact a0
  obtain ⟨t3, t4⟩ := t1.put (k := n) c0 hn (plF (r.T + 1)) ⟨Rd.nil _, fun x hx => by cases hx⟩
  have HF := Lib.hid (show RefAt (put4 (w.setCell ⟨h, 2, none⟩ (.int .i64 (r.T + 1))) g (n * 4) false (-1) (.slice none 0 0) (r.T + 1)).drew h T K (r.free n) ∧ Chg T w (put4 (w.setCell ⟨h, 2, none⟩ (.int .i64 (r.T + 1))) g (n * 4) false (-1) (.slice none 0 0) (r.T + 1)).drew from
    ⟨t3.quiet ((Chg.refl _ _).drew), (t2.trans t4 (fun k hk => .inl hk)).drew⟩)
  have e1 : IntKind.i64.wrap (r.T + 1) = r.T + 1 := IntWalk.i64_in _ (by omega)
  have i0 : (0 : Int) ≤ (n : Int) := by omega
  have i1 : (n : Int) < (r.L.length : Int) := by omega
  have fh2 := fh 2
  clear H t1 t2 t3 t4 htell hpl hp hn c0 a1
  go_enter Try.func51, Try.ntmps51
  go_wp2
  go_still_tail 11, (by kernel_rfl)
  (try change wpStill _ _ (World.drew _) _ _ _)
  (repeat still_step)
  (try refine wpStill_nil ?_)
  (try change wpList _ _ _ _ _ (World.drew _))
  go_wp2
  go_end0
  exact ⟨rfl, HF.out⟩
def cntTo (t : Fo) (k : Nat) : Nat := (List.range k).countP t.there
theorem cntTo_succ (t : Fo) (k : Nat) : cntTo t (k + 1) = cntTo t k + if t.there k then 1 else 0 := by
  unfold cntTo
  rw [List.range_succ, List.countP_append, List.countP_singleton]
theorem cntTo_le (t : Fo) (k : Nat) : cntTo t k ≤ k := by
  unfold cntTo
  have := List.countP_le_length (p := t.there) (l := List.range k)
  simpa using this
set_option maxHeartbeats 1600000 in
set_option maxRecDepth 100000 in
theorem rlen_any (H : RefAt w h T K r) (hs : RSim r t m) : Calls Try.prog 35 #[ptr h] w fun e w' => e = .returned (.int .i64 (t.len : Nat)) ∧ w = w' := by
  obtain ⟨g, cl, hgT, hne, hcl, htell⟩ := H.tell
  obtain ⟨a0, a1, a2, lh, lg, fg, fh, hpl⟩ := htell w (Chg.refl _ _)
  have hl : t.len = cntTo t r.L.length := by unfold Fo.len cntTo; rw [hs.len]
  rw [hl]
  have hP := Lib.hid (fun k (hk : k < r.L.length) => show w.cell? ⟨g, k * 4, none⟩ = some (.bool (t.there k)) by
    obtain ⟨p, hp, q1, _⟩ := hs.get (n := k) (by rw [← hs.len]; exact hk)
    rw [← q1]; exact (hpl k p hp).1)
  have hb : r.L.length ≤ 4096 := by rw [hs.len]; exact hs.big
  obtain ⟨s, hss⟩ : ∃ s, s = r.L.length := ⟨_, rfl⟩
  rw [← hss] at a0 hP hb ⊢
  clear H hs htell hpl hl hss hcl
  go_enter Try.func35, Try.ntmps35
  go_wp2
  go_loopg [3, 4] s (fun gh nv iv wr => ∃ k c : Nat, k + gh = s ∧ c ≤ k ∧ nv = .int .i64 c ∧ iv = .int .i64 k ∧ Hid (c = cntTo t k) ∧ w = wr)
  case atStart => exact ⟨0, 0, by omega, by omega, rfl, rfl, Lib.hid rfl, rfl⟩
  case round =>
    obtain ⟨k, c, hk, hck, rfl, rfl, HC, rfl⟩ := hrel
    by_cases hlt : k < s
    · have b0 := hP.out k hlt
      have i0 : (0 : Int) ≤ (k : Int) := by omega
      have i1 : (k : Int) < (s : Int) := by omega
      cases ht : t.there k with
      | true =>
        rw [ht] at b0
        have HN := Lib.hid (show c + 1 = cntTo t (k + 1) by rw [cntTo_succ, ht, HC.out]; rfl)
        clear ht HC
        go_wp2
        go_roundg (s - k - 1)
        case measure => omega
        case rel => exact ⟨k + 1, c + 1, by omega, by omega, by go_num, by go_num, Lib.hid HN.out, rfl⟩
      | false =>
        rw [ht] at b0
        have HN := Lib.hid (show c = cntTo t (k + 1) by rw [cntTo_succ, ht, HC.out]; rfl)
        clear ht HC
        go_wp2
        go_roundg (s - k - 1)
        case measure => omega
        case rel => exact ⟨k + 1, c, by omega, by omega, rfl, by go_num, Lib.hid HN.out, rfl⟩
    · obtain rfl : k = s := by omega
      go_wp2
      go_ret
      exact ⟨by rw [← HC.out]; rfl, rfl⟩
end
end Go.Proofs
end
