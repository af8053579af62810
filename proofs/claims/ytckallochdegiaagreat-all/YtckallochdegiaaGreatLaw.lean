import Derived.Test.YtckallochdegiaaGreatIxH
import Derived.Test.YtckallochdegiaaGreatWeak
import Derived.Test.YtckallochdegiaaGreatSize
namespace Go.Proofs.YtckallochdegiaaGreat
set_option linter.unusedVariables false
set_option linter.unusedSimpArgs false
open Go.RowKit

/-- What Count answers: how many vertices are the least of their component. -/
def CountR (N : Nat) (es : List Edg) (w : World) (e : Ending) (w' : World) : Prop := ∃ (k : Nat) (r : Nat → Bool), e = .returned (.int .i64 k) ∧ (∀ v : Nat, v < N → (r v = true ↔ ∀ u : Nat, u < v → ¬ Rch es false 0 v u)) ∧ k = cnt r N ∧ Below w.heap.size w w'

set_option maxRecDepth 100000 in
set_option maxHeartbeats 1000000 in
theorem Count_F (w : World) (g N : Nat) (es : List Edg) (ev : Value) (tb nt tcap : Nat) (pr : Int) (h : GW w g N es ev tb nt tcap pr) : Calls Tryz.prog 36 #[ptr g] w (CountR N es w) := by
  classical
  obtain ⟨r, hr⟩ : ∃ r : Nat → Bool, ∀ v : Nat, (r v = true ↔ ∀ u : Nat, u < v → ¬ Rch es false 0 v u) := ⟨fun v => decide (∀ u : Nat, u < v → ¬ Rch es false 0 v u), fun v => by simp⟩
  have HRr := hid hr
  have HG := hid h
  have n48 := h.n48
  clear h hr
  go_enter Tryz.func36, Tryz.ntmps36
  go_wp2_with fail
  go_loopw [3, 4] (fun a c wr => ∃ t v : Nat, v ≤ N ∧ t ≤ v ∧ a = .int .i64 t ∧ c = .int .i64 v ∧ Hid (t = cnt r v) ∧ Hid (Below w.heap.size w wr)) (fun _ c _ => N - (intOf c).toNat)
  case atStart => exact ⟨0, 0, by omega, by omega, rfl, rfl, rfl, Below.refl _ _⟩
  case round =>
    obtain ⟨t, v, hv, ht, rfl, rfl, hT, hB⟩ := hrel
    have hBs := hB.out.size
    have HGr := hid (HG.out.below hB.out)
    have d0 := HGr.out.c0
    by_cases cv : v < N
    · have cv' : (v : Int) < (N : Int) := by omega
      go_wp2_with fail
      refine (Component_any g N v 0 false es ev wr HGr.out.c0 HGr.out.c1 HGr.out.ed n48 (by omega) cv' HGr.out.inr).mono ?_
      rintro e w1 ⟨rfl, ⟨rc, hR, hrc⟩, hb1⟩
      have HR := hid hR
      have HRc := hid hrc
      have HB1 : Hid (Below w.heap.size w w1) := hB.out.trans (hb1.mono hBs)
      clear hR hb1 d0 hrc
      go_wp2_with fail
      go_loopw [5, 20] (fun a c wr => ∃ (f : Bool) (k : Nat), k ≤ N ∧ a = .bool f ∧ c = .int .i64 k ∧ Hid (f = true ↔ ∀ u : Nat, u < k → u < v → rc u = false) ∧ wr = w1) (fun _ c _ => N - (intOf c).toNat)
      case atStart => exact ⟨true, 0, by omega, rfl, rfl, by simp [Hid], rfl⟩
      case round =>
        obtain ⟨f, k, hk, rfl, rfl, hF, rfl⟩ := hrel
        by_cases ck : k < N
        · have ck' : (k : Int) < (N : Int) := by omega
          have d := World.rowIs.cell HR.out (i := k) ck
          have HS : Hid (∀ b : Bool, (b = true ↔ (f = true ∧ (k < v → rc k = false))) → (b = true ↔ ∀ u : Nat, u < k + 1 → u < v → rc u = false)) := fun b hb => by
            rw [hb, hF.out]
            constructor
            · rintro ⟨h1, h2⟩ u hu1 hu2
              by_cases q : u = k
              · subst q; exact h2 hu2
              · exact h1 u (by omega) hu2
            · intro h1
              exact ⟨fun u hu1 hu2 => h1 u (by omega) hu2, fun q => h1 k (by omega) q⟩
          obtain ⟨rk, hrk⟩ : ∃ rk, rk = rc k := ⟨_, rfl⟩
          have HRk := hid hrk
          rw [← hrk] at d
          clear hrk
          cases f
          · go_wp2
            exact ⟨⟨false, k + 1, by omega, rfl, by go_num, HS.out _ (by simp), by trivial⟩, by simp [intOf]; omega⟩
          · cases rk
            · go_wp2
              exact ⟨⟨true, k + 1, by omega, rfl, by go_num, HS.out _ (by simp [← HRk.out]), by trivial⟩, by simp [intOf]; omega⟩
            · by_cases hvk : v ≤ k
              · have hvk' : decide (v ≤ k) = true := by simpa using hvk
                go_wp2
                exact ⟨⟨true, k + 1, by omega, by simp [hvk], by go_num, HS.out _ (by simp; omega), by trivial⟩, by simp [intOf]; omega⟩
              · have hvk' : decide (v ≤ k) = false := by simpa using hvk
                go_wp2
                exact ⟨⟨false, k + 1, by omega, by simp [hvk], by go_num, HS.out _ (by simp [← HRk.out]; omega), by trivial⟩, by simp [intOf]; omega⟩
        · have ck' : ¬ (k : Int) < (N : Int) := by omega
          have HC : Hid (f = true ↔ r v = true) := by
            show _ ↔ _
            rw [hF.out, HRr.out v]
            constructor
            · intro h1 u hu q
              have := (HRc.out u (by omega)).2 q
              rw [h1 u (by omega) hu] at this
              simp at this
            · intro h1 u _ hu
              cases q : rc u
              · rfl
              · exact absurd ((HRc.out u (by omega)).1 q) (h1 u hu)
          have HT1 : Hid (cnt r (v + 1) = cnt r v + if r v = true then 1 else 0) := by show _ = _; rfl
          cases f
          · have HN : Hid (t = cnt r (v + 1)) := by show _ = _; rw [HT1.out, if_neg (by rw [← HC.out]; simp)]; exact hT.out
            go_wp2
            exact ⟨⟨t, v + 1, by omega, by omega, rfl, by go_num, HN, HB1⟩, by simp [intOf]; omega⟩
          · have HN : Hid (t + 1 = cnt r (v + 1)) := by show _ = _; rw [HT1.out, if_pos (HC.out.1 rfl), hT.out]
            go_wp2
            exact ⟨⟨t + 1, v + 1, by omega, by omega, by go_num, by go_num, HN, HB1⟩, by simp [intOf]; omega⟩
    · have cv' : ¬ (v : Int) < (N : Int) := by omega
      have HV : Hid (v = N) := by show _ = _; omega
      go_wp2
      go_ret
      exact ⟨t, r, rfl, fun v _ => HRr.out v, by rw [hT.out, HV.out], hB.out⟩

/-- What pick answers. -/
def pk (c : Int) (n : Nat) : Nat := (if c < 0 then (-(c + 1)).toNat else c.toNat) % n
theorem pk_lt (c : Int) {n : Nat} (h : 0 < n) : pk c n < n := Nat.mod_lt _ h

set_option maxRecDepth 100000 in
set_option maxHeartbeats 1000000 in
theorem pick_any (w : World) (c : Int) (n : Nat) (hn : 0 < n) (hc0 : -9223372036854775808 ≤ c) (hc1 : c ≤ 9223372036854775807) (hn1 : n ≤ 9223372036854775807) :
    Calls Tryz.prog 32 #[.int .i64 c, .int .i64 n] w fun e w' => e = .returned (.int .i64 (pk c n)) ∧ w' = w := by
  by_cases h : c < 0
  · obtain ⟨d, hd⟩ : ∃ d : Nat, -(c + 1) = d := ⟨(-(c + 1)).toNat, by omega⟩
    have e : pk c n = d % n := by rw [pk, if_pos h, hd, Int.toNat_natCast]
    rw [e]
    go_enter Tryz.func32, Tryz.ntmps32
    go_wp2
    go_ret
    exact ⟨rfl, rfl⟩
  · obtain ⟨d, rfl⟩ : ∃ d : Nat, c = d := ⟨c.toNat, by omega⟩
    have e : pk d n = d % n := by rw [pk, if_neg h, Int.toNat_natCast]
    rw [e]
    go_enter Tryz.func32, Tryz.ntmps32
    go_wp2
    go_ret
    exact ⟨rfl, rfl⟩

end Go.Proofs.YtckallochdegiaaGreat
namespace Go.Proofs.YtckallochdegiaaGreat
set_option linter.unusedVariables false
set_option linter.unusedSimpArgs false
open Go.RowKit

/-- A pair of the law's: an index and a graph. -/
structure Pr where
  x : Nat
  g : Nat
  tb : Nat
  tcap : Nat
  ev : Value
  F : Nat → Value
  pr : Int
  G : Gr

/-- The blocks that are written where the pair changes. -/
def Pr.own (p : Pr) : Nat → Prop := fun k => k = p.x ∨ Own p.g p.tb p.ev k

/-- The pair tells the same on both sides. -/
structure Pr.At (p : Pr) (w : World) : Prop where
  ix : IdxG w p.x p.G p.pr
  gr : GRep w p.g p.G p.ev p.tb p.tcap p.F p.pr
  gi : GI p.G
  ns : NS p.G

section
variable {w w' : World} {p q : Pr} {S : Nat → Prop}

/-- The types of a pair's own blocks. -/
theorem Pr.At.ty (h : p.At w) {k : Nat} (hk : p.own k) : ∃ t, TyAt w k t ∧ (t = 104 ∨ t = 45 ∨ t = 115 ∨ t = 89) := by
  rcases hk with rfl | rfl | rfl | hk
  · exact ⟨_, h.ix.ty, Or.inl rfl⟩
  · exact ⟨_, rowIs_ty h.gr.rg, Or.inr (Or.inl rfl)⟩
  · exact ⟨_, rowIs_ty h.gr.rt, Or.inr (Or.inr (Or.inl rfl))⟩
  · rcases h.gr.ed with ⟨e, _⟩ | ⟨eb, cap, e⟩
    · rw [e] at hk; simp [Value.ownBlock] at hk
    · rw [e.own] at hk; simp at hk; subst hk
      exact ⟨_, e.tya, Or.inr (Or.inr (Or.inr rfl))⟩
theorem Pr.At.lt (h : p.At w) {k : Nat} (hk : p.own k) : k < w.heap.size := by
  obtain ⟨t, ht, _⟩ := h.ty hk
  exact ht.lt

/-- The pair stays where none of its own blocks is written, and no tour. -/
theorem Pr.At.but (h : p.At w) (b : But S w w') (hS : ∀ k, p.own k → ¬ S k) (hn : NoTour S w) (hi : NoIt S w) : p.At w' :=
  ⟨h.ix.but b (hS p.x (Or.inl rfl)) hi, h.gr.but b (fun k hk => hS k (Or.inr hk)) hn, h.gi, h.ns⟩
theorem Pr.At.below (h : p.At w) (b : Below w.heap.size w w') : p.At w' :=
  h.but (S := fun _ => False) (But.of b) (fun _ _ q => q) (fun _ q => q.elim) (fun _ q => q.elim)

/-- S holds blocks of the law's own lists, and of its world, alone. -/
def Oth (S : Nat → Prop) (w : World) : Prop := ∀ k, S k → k < w.heap.size → ∃ t, TyAt w k t ∧ (t = 9 ∨ t = 31 ∨ t = 25 ∨ t = 37)

theorem TyAt.same {b t t' : Nat} (h : TyAt w b t) (k : TyAt w b t') : t = t' := by
  by_cases e : t = t'
  · exact e
  · exact absurd rfl (h.ne k e)

theorem Oth.noTour (h : Oth S w) : NoTour S w := by
  intro k hk hlt
  obtain ⟨t, ht, c⟩ := h k hk hlt
  refine ⟨fun q => ?_, fun q => ?_⟩ <;> (have e := ht.same q; subst e; revert c; decide)
theorem Oth.noIt (h : Oth S w) : NoIt S w := by
  intro k hk hlt q
  obtain ⟨t, ht, c⟩ := h k hk hlt
  have e := ht.same q
  subst e
  revert c; decide
/-- S holds no block of numbers. -/
def NoInt (S : Nat → Prop) (w : World) : Prop := ∀ k, S k → k < w.heap.size → ¬ TyAt w k 3
theorem Oth.noInt (h : Oth S w) : NoInt S w := by
  intro k hk hlt q
  obtain ⟨t, ht, c⟩ := h k hk hlt
  have e := ht.same q
  subst e
  revert c; decide
theorem Pr.At.oth (h : p.At w) (b : But S w w') (hS : Oth S w) : p.At w' := by
  refine h.but b (fun k hk q => ?_) hS.noTour hS.noIt
  obtain ⟨t, ht, c⟩ := hS k q (h.lt hk)
  obtain ⟨t', ht', c'⟩ := h.ty hk
  have e := ht.same ht'; subst e
  rcases c with rfl | rfl | rfl | rfl <;> revert c' <;> decide
theorem Pr.At.noTour (h : p.At w) : NoTour p.own w := by
  intro k hk hlt
  obtain ⟨t, ht, c⟩ := h.ty hk
  refine ⟨fun q => ?_, fun q => ?_⟩ <;> (have e := ht.same q; subst e; revert c; decide)

theorem Pr.At.noIt (h : p.At w) : NoIt p.own w := by
  intro k hk hlt q
  obtain ⟨t, ht, c⟩ := h.ty hk
  have e := ht.same q
  subst e
  revert c; decide
theorem Pr.At.noInt (h : p.At w) : NoInt p.own w := by
  intro k hk hlt q
  obtain ⟨t, ht, c⟩ := h.ty hk
  have e := ht.same q
  subst e
  revert c; decide

/-- The list k that was handed out, as the caller has written it. -/
def ListIs (w : World) (v : Value) (k : Nat) : Prop := ∃ g cap, v = .slice (some ⟨g, 0, none⟩) cap cap ∧ cap ≤ maxLen ∧ w.rowIs g 3 cap (fun _ => .int .i64 (-1 - (k : Int)))
theorem ListIs.but {v : Value} {k : Nat} (h : ListIs w v k) (b : But S w w') (hS : NoInt S w) : ListIs w' v k := by
  obtain ⟨g, cap, h1, h2, h3⟩ := h
  exact ⟨g, cap, h1, h2, row_but h3 b (fun q => hS g q h3.lt (rowIs_ty h3))⟩
theorem ListIs.below {v : Value} {k : Nat} (h : ListIs w v k) (b : Below w.heap.size w w') : ListIs w' v k :=
  h.but (S := fun _ => False) (But.of b) (fun _ q => q.elim)

theorem owns_but {B e size n : Nat} {v : Value} {xs : List Value} (h : w.ownsRow B e size v n xs) (b : But S w w') (hS : ∀ k, v.ownBlock = some k → ¬ S k) : w'.ownsRow B e size v n xs := by
  refine ⟨h.1, ?_⟩
  rcases h.2 with k | ⟨g, cap, cur, hv, hB, hg, hle⟩
  · exact Or.inl k
  · exact Or.inr ⟨g, cap, cur, hv, hB, by rw [b.block g (Array.getElem?_eq_some_iff.1 hg).1 (hS g (by rw [hv]; rfl))]; exact hg, hle⟩
end

def wf (iv tv lv : Value) : Nat → Value := fun i => if i = 0 then iv else if i = 1 then tv else if i = 2 then lv else .bool false

/-- The cells of the law's pairs. -/
def pcells (ps : Nat → Pr) (m : Nat) : List Value := (List.range m).flatMap fun j => [ptr (ps j).x, ptr (ps j).g]
theorem pcells_succ (ps : Nat → Pr) (m : Nat) : pcells ps (m + 1) = pcells ps m ++ [ptr (ps m).x, ptr (ps m).g] := by
  simp [pcells, List.range_succ]
theorem pcells_length (ps : Nat → Pr) (m : Nat) : (pcells ps m).length = m * 2 := by
  induction m with
  | zero => rfl
  | succ m ih => rw [pcells_succ, List.length_append, ih]; simp; omega
theorem pcells_congr {ps qs : Nat → Pr} (m : Nat) (h : ∀ j, j < m → (ps j).x = (qs j).x ∧ (ps j).g = (qs j).g) : pcells ps m = pcells qs m := by
  induction m with
  | zero => rfl
  | succ m ih => rw [pcells_succ, pcells_succ, ih (fun j hj => h j (by omega)), (h m (by omega)).1, (h m (by omega)).2]
theorem pcells_get (ps : Nat → Pr) (m j : Nat) (hj : j < m) : (pcells ps m)[j * 2]? = some (ptr (ps j).x) ∧ (pcells ps m)[j * 2 + 1]? = some (ptr (ps j).g) := by
  induction m with
  | zero => omega
  | succ m ih =>
    rw [pcells_succ]
    have l := pcells_length ps m
    by_cases e : j = m
    · subst e
      rw [List.getElem?_append_right (by omega), List.getElem?_append_right (by omega), l, Nat.sub_self, show j * 2 + 1 - j * 2 = 1 by omega]
      exact ⟨rfl, rfl⟩
    · rw [List.getElem?_append_left (by omega), List.getElem?_append_left (by omega)]
      exact ih (by omega)

/-- The law's world, n steps in: its pairs, its texts, its lists. -/
structure Law (w : World) (B W n m : Nat) (ps : Nat → Pr) (ts : List ByteArray) (ys : List Value) (iv tv lv : Value) : Prop where
  row : w.rowIs W 31 4 (wf iv tv lv)
  iO : w.ownsRow B 37 2 iv m (pcells ps m)
  tO : w.ownsRow B 9 1 tv ts.length (ts.map Value.string)
  lO : w.ownsRow B 25 1 lv ys.length ys
  bW : B ≤ W
  at_ : ∀ j, j < m → (ps j).At w
  ge : ∀ j, j < m → ∀ k, (ps j).own k → B ≤ k
  dj : ∀ i j, i < m → j < m → i ≠ j → ∀ k, (ps i).own k → ¬ (ps j).own k
  il : m ≤ n
  tl : ts.length ≤ n
  ll : ys.length ≤ n
  tz : ∀ t, t ∈ ts → t.size ≤ 1048576
  ls : ∀ k, k < ys.length → ListIs w (ys[k]?.getD undef) k

def LawX (w : World) (B W n : Nat) : Prop := ∃ m ps ts ys iv tv lv, Law w B W n m ps ts ys iv tv lv

section
variable {w w' : World} {B W n m : Nat} {ps : Nat → Pr} {ts : List ByteArray} {ys : List Value} {iv tv lv : Value} {S : Nat → Prop}

theorem Law.below (h : Law w B W n m ps ts ys iv tv lv) (b : Below w.heap.size w w') : Law w' B W n m ps ts ys iv tv lv :=
  ⟨row_but (S := fun _ => False) h.row (But.of b) (fun q => q), owns_below h.iO b (Nat.le_refl _), owns_below h.tO b (Nat.le_refl _), owns_below h.lO b (Nat.le_refl _), h.bW, fun j hj => (h.at_ j hj).below b, h.ge, h.dj, h.il, h.tl, h.ll, h.tz, fun k hk => (h.ls k hk).below b⟩
theorem LawX.below (h : LawX w B W n) (b : Below w.heap.size w w') : LawX w' B W n := by
  obtain ⟨m, ps, ts, ys, iv, tv, lv, h⟩ := h
  exact ⟨m, ps, ts, ys, iv, tv, lv, h.below b⟩
theorem Law.mono (h : Law w B W n m ps ts ys iv tv lv) {n' : Nat} (hn : n ≤ n') : Law w B W n' m ps ts ys iv tv lv :=
  ⟨h.row, h.iO, h.tO, h.lO, h.bW, h.at_, h.ge, h.dj, Nat.le_trans h.il hn, Nat.le_trans h.tl hn, Nat.le_trans h.ll hn, h.tz, h.ls⟩
theorem Law.c0 (h : Law w B W n m ps ts ys iv tv lv) : w.cell? ⟨W, 0, none⟩ = some iv := h.row.cell (by omega)
theorem Law.c1 (h : Law w B W n m ps ts ys iv tv lv) : w.cell? ⟨W, 1, none⟩ = some tv := h.row.cell (by omega)
theorem Law.c2 (h : Law w B W n m ps ts ys iv tv lv) : w.cell? ⟨W, 2, none⟩ = some lv := h.row.cell (by omega)
theorem Law.c3 (h : Law w B W n m ps ts ys iv tv lv) : w.cell? ⟨W, 3, none⟩ = some (.bool false) := h.row.cell (by omega)
theorem Law.tyW (h : Law w B W n m ps ts ys iv tv lv) : TyAt w W 31 := rowIs_ty h.row

/-- A text more. -/
theorem Law.text (h : Law w B W n m ps ts ys iv tv lv) {t : ByteArray} {tv' : Value} (ht : t.size ≤ 1048576) (b : But (fun k => some k = tv.ownBlock) w w')
    (ho : w'.ownsRow B 9 1 tv' (ts.length + 1) (ts.map Value.string ++ [.string t])) : Law (w'.setCell ⟨W, 1, none⟩ tv') B W (n + 1) m ps (ts ++ [t]) ys iv tv' lv := by
  have o1 : Oth (fun k => some k = tv.ownBlock) w := fun k hk _ => ⟨_, owns_ty h.tO hk.symm, Or.inl rfl⟩
  have r1 : w'.rowIs W 31 4 (wf iv tv lv) := row_but h.row b (fun q => (owns_ty h.tO q.symm).ne h.tyW (by decide) rfl)
  have b2 := But.setCell w' ⟨W, 1, none⟩ tv'
  have o2 : Oth (fun k => k = W) w' := fun k hk _ => ⟨_, by rw [hk]; exact rowIs_ty r1, Or.inr (Or.inl rfl)⟩
  have i1 := owns_but h.iO b (fun k hk q => (owns_ty h.iO hk).ne (owns_ty h.tO q.symm) (by decide) rfl)
  have l1 := owns_but h.lO b (fun k hk q => (owns_ty h.lO hk).ne (owns_ty h.tO q.symm) (by decide) rfl)
  refine ⟨(r1.set 1 tv').congr ?_, owns_but i1 b2 (fun k hk q => (owns_ty i1 hk).ne (rowIs_ty r1) (by decide) q), ?_, owns_but l1 b2 (fun k hk q => (owns_ty l1 hk).ne (rowIs_ty r1) (by decide) q), h.bW, fun j hj => ((h.at_ j hj).oth b o1).oth b2 o2, h.ge, h.dj, by have := h.il; omega, by rw [List.length_append]; have := h.tl; simp; omega, by have := h.ll; omega, fun s hs => ?_, fun k hk => ((h.ls k hk).but b o1.noInt).but b2 o2.noInt⟩
  · intro i hi
    simp only [wf]
    by_cases q : i = 1
    · subst q; simp
    · simp [q]
  · rw [List.length_append, List.map_append]
    exact owns_but ho b2 (fun k hk q => (owns_ty ho hk).ne (rowIs_ty r1) (by decide) q)
  · rcases List.mem_append.1 hs with q | q
    · exact h.tz s q
    · simp at q; subst q; exact ht

/-- A list more. -/
theorem Law.list (h : Law w B W n m ps ts ys iv tv lv) {y lv' : Value} (hy : ListIs w y ys.length) (b : But (fun k => some k = lv.ownBlock) w w')
    (ho : w'.ownsRow B 25 1 lv' (ys.length + 1) (ys ++ [y])) : Law (w'.setCell ⟨W, 2, none⟩ lv') B W (n + 1) m ps ts (ys ++ [y]) iv tv lv' := by
  have o1 : Oth (fun k => some k = lv.ownBlock) w := fun k hk _ => ⟨_, owns_ty h.lO hk.symm, Or.inr (Or.inr (Or.inl rfl))⟩
  have r1 : w'.rowIs W 31 4 (wf iv tv lv) := row_but h.row b (fun q => (owns_ty h.lO q.symm).ne h.tyW (by decide) rfl)
  have b2 := But.setCell w' ⟨W, 2, none⟩ lv'
  have o2 : Oth (fun k => k = W) w' := fun k hk _ => ⟨_, by rw [hk]; exact rowIs_ty r1, Or.inr (Or.inl rfl)⟩
  have i1 := owns_but h.iO b (fun k hk q => (owns_ty h.iO hk).ne (owns_ty h.lO q.symm) (by decide) rfl)
  have t1 := owns_but h.tO b (fun k hk q => (owns_ty h.tO hk).ne (owns_ty h.lO q.symm) (by decide) rfl)
  refine ⟨(r1.set 2 lv').congr ?_, owns_but i1 b2 (fun k hk q => (owns_ty i1 hk).ne (rowIs_ty r1) (by decide) q), owns_but t1 b2 (fun k hk q => (owns_ty t1 hk).ne (rowIs_ty r1) (by decide) q), ?_, h.bW, fun j hj => ((h.at_ j hj).oth b o1).oth b2 o2, h.ge, h.dj, by have := h.il; omega, by have := h.tl; omega, by rw [List.length_append]; have := h.ll; simp; omega, h.tz, fun k hk => ?_⟩
  · intro i hi
    simp only [wf]
    by_cases q : i = 2
    · subst q; simp
    · simp [q]
  · rw [List.length_append]
    exact owns_but ho b2 (fun k hk q => (owns_ty ho hk).ne (rowIs_ty r1) (by decide) q)
  · rw [List.length_append] at hk
    by_cases q : k < ys.length
    · rw [List.getElem?_append_left q]; exact ((h.ls k q).but b o1.noInt).but b2 o2.noInt
    · have e : k = ys.length := by simp at hk; omega
      subst e
      rw [List.getElem?_append_right (Nat.le_refl _), Nat.sub_self]
      exact (hy.but b o1.noInt).but b2 o2.noInt

/-- A pair more: the blocks of p are new. -/
theorem Law.pair (h : Law w B W n m ps ts ys iv tv lv) {p : Pr} {iv' : Value} {w0 : World} (h0 : Law w0 B W n m ps ts ys iv tv lv) (hp : p.At w) (hnew : ∀ k, p.own k → w0.heap.size ≤ k) (hB : B ≤ w0.heap.size) (b : But (fun k => some k = iv.ownBlock) w w')
    (ho : w'.ownsRow B 37 2 iv' (m + 1) (pcells ps m ++ [ptr p.x, ptr p.g])) : Law (w'.setCell ⟨W, 0, none⟩ iv') B W (n + 1) (m + 1) (fun j => if j = m then p else ps j) ts ys iv' tv lv := by
  have o1 : Oth (fun k => some k = iv.ownBlock) w := fun k hk _ => ⟨_, owns_ty h.iO hk.symm, Or.inr (Or.inr (Or.inr rfl))⟩
  have r1 : w'.rowIs W 31 4 (wf iv tv lv) := row_but h.row b (fun q => (owns_ty h.iO q.symm).ne h.tyW (by decide) rfl)
  have b2 := But.setCell w' ⟨W, 0, none⟩ iv'
  have o2 : Oth (fun k => k = W) w' := fun k hk _ => ⟨_, by rw [hk]; exact rowIs_ty r1, Or.inr (Or.inl rfl)⟩
  have t1 := owns_but h.tO b (fun k hk q => (owns_ty h.tO hk).ne (owns_ty h.iO q.symm) (by decide) rfl)
  have l1 := owns_but h.lO b (fun k hk q => (owns_ty h.lO hk).ne (owns_ty h.iO q.symm) (by decide) rfl)
  refine ⟨(r1.set 0 iv').congr ?_, ?_, owns_but t1 b2 (fun k hk q => (owns_ty t1 hk).ne (rowIs_ty r1) (by decide) q), owns_but l1 b2 (fun k hk q => (owns_ty l1 hk).ne (rowIs_ty r1) (by decide) q), h.bW, fun j hj => ?_, fun j hj k hk => ?_, fun i j hi hj hne k hk hk2 => ?_, by have := h.il; omega, by have := h.tl; omega, by have := h.ll; omega, h.tz, fun k hk => ((h.ls k hk).but b o1.noInt).but b2 o2.noInt⟩
  · intro i hi
    simp only [wf]
    by_cases q : i = 0
    · subst q; simp
    · simp [q]
  · have e : pcells (fun j => if j = m then p else ps j) (m + 1) = pcells ps m ++ [ptr p.x, ptr p.g] := by
      rw [pcells_succ, if_pos rfl, pcells_congr m (qs := ps) (fun j hj => by rw [if_neg (by omega)]; exact ⟨rfl, rfl⟩)]
    rw [e]
    exact owns_but ho b2 (fun k hk q => (owns_ty ho hk).ne (rowIs_ty r1) (by decide) q)
  · by_cases e : j = m
    · simp only [if_pos e]; exact (hp.oth b o1).oth b2 o2
    · simp only [if_neg e]; exact ((h.at_ j (by omega)).oth b o1).oth b2 o2
  · by_cases e : j = m
    · simp only [if_pos e] at hk; have := hnew k hk; omega
    · simp only [if_neg e] at hk; exact h.ge j (by omega) k hk
  · by_cases e : i = m
    · simp only [if_pos e] at hk
      have := hnew k hk
      simp only [if_neg (show ¬ j = m by omega)] at hk2
      have := (h0.at_ j (by omega)).lt hk2
      omega
    · simp only [if_neg e] at hk
      by_cases f : j = m
      · simp only [if_pos f] at hk2
        have := hnew k hk2
        have := (h0.at_ i (by omega)).lt hk
        omega
      · simp only [if_neg f] at hk2
        exact h.dj i j (by omega) (by omega) hne k hk hk2

/-- A pair changes. -/
theorem Law.change (h : Law w B W n m ps ts ys iv tv lv) {j : Nat} (hj : j < m) {p : Pr} (hp : p.At w') (hx : p.x = (ps j).x) (hg : p.g = (ps j).g) (hown : ∀ k, p.own k → (ps j).own k ∨ w.heap.size ≤ k) (hB : B ≤ w.heap.size) (b : But (ps j).own w w') :
    Law w' B W n m (fun i => if i = j then p else ps i) ts ys iv tv lv := by
  have hj_ := h.at_ j hj
  have ne : ∀ k t, TyAt w k t → (t = 9 ∨ t = 31 ∨ t = 25 ∨ t = 37) → ¬ (ps j).own k := by
    intro k t ht c q
    obtain ⟨t', ht', c'⟩ := hj_.ty q
    have e := ht.same ht'; subst e
    rcases c with rfl | rfl | rfl | rfl <;> revert c' <;> decide
  refine ⟨row_but h.row b (ne _ _ h.tyW (Or.inr (Or.inl rfl))), ?_, owns_but h.tO b (fun k hk => ne _ _ (owns_ty h.tO hk) (Or.inl rfl)), owns_but h.lO b (fun k hk => ne _ _ (owns_ty h.lO hk) (Or.inr (Or.inr (Or.inl rfl)))), h.bW, fun i hi => ?_, fun i hi k hk => ?_, fun i i' hi hi' hne k hk hk2 => ?_, h.il, h.tl, h.ll, h.tz, fun k hk => (h.ls k hk).but b hj_.noInt⟩
  · have e : pcells (fun i => if i = j then p else ps i) m = pcells ps m := pcells_congr m (fun i hi => by
      by_cases e : i = j
      · subst e; rw [if_pos rfl]; exact ⟨hx, hg⟩
      · rw [if_neg e]; exact ⟨rfl, rfl⟩)
    rw [e]
    exact owns_but h.iO b (fun k hk => ne _ _ (owns_ty h.iO hk) (Or.inr (Or.inr (Or.inr rfl))))
  · by_cases e : i = j
    · simp only [if_pos e]; exact hp
    · simp only [if_neg e]; exact (h.at_ i hi).but b (fun k hk q => h.dj i j hi hj e k hk q) hj_.noTour hj_.noIt
  · by_cases e : i = j
    · simp only [if_pos e] at hk
      rcases hown k hk with q | q
      · exact h.ge j hj k q
      · omega
    · simp only [if_neg e] at hk; exact h.ge i hi k hk
  · by_cases e : i = j
    · simp only [if_pos e] at hk
      simp only [if_neg (show ¬ i' = j by omega)] at hk2
      rcases hown k hk with q | q
      · exact h.dj j i' hj hi' (by omega) k q hk2
      · have := (h.at_ i' hi').lt hk2; omega
    · simp only [if_neg e] at hk
      by_cases f : i' = j
      · simp only [if_pos f] at hk2
        rcases hown k hk2 with q | q
        · exact h.dj i j hi hj e k hk q
        · have := (h.at_ i hi).lt hk; omega
      · simp only [if_neg f] at hk2
        exact h.dj i i' hi hi' hne k hk hk2
end

end Go.Proofs.YtckallochdegiaaGreat
namespace Go.Proofs.YtckallochdegiaaGreat
set_option linter.unusedVariables false
set_option linter.unusedSimpArgs false
open Go.RowKit

def pf (x g : Nat) : Nat → Value := fun i => if i = 0 then ptr x else ptr g

/-- Block b holds a pair. -/
def PBk (w : World) (b x g : Nat) : Prop := w.rowIs b 37 2 (pf x g)
theorem PBk.c0 {w : World} {b x g : Nat} (h : PBk w b x g) : w.cell? ⟨b, 0, none⟩ = some (ptr x) := World.rowIs.cell h (by omega)
theorem PBk.c1 {w : World} {b x g : Nat} (h : PBk w b x g) : w.cell? ⟨b, 1, none⟩ = some (ptr g) := World.rowIs.cell h (by omega)
theorem PBk.below {w w' : World} {b x g : Nat} (h : PBk w b x g) (k : Below w.heap.size w w') : PBk w' b x g := row_but (S := fun _ => False) h (But.of k) (fun q => q)
theorem PBk.but {w w' : World} {b x g : Nat} {S : Nat → Prop} (h : PBk w b x g) (k : But S w w') (hS : ∀ t, TyAt w b t → S b → False) : PBk w' b x g := row_but h k (fun q => hS _ (rowIs_ty h) q)

set_option maxRecDepth 100000 in
set_option maxHeartbeats 400000 in
theorem vertex_any (w : World) (b g N : Nat) (v : Int) (c1 : w.cell? ⟨b, 1, none⟩ = some (ptr g)) (c0 : w.cell? ⟨g, 0, none⟩ = some (.int .i64 N)) :
    Calls Tryz.prog 39 #[ptr b, .int .i64 v] w fun e w' => e = .returned (.bool (vtx N v)) ∧ w' = w := by
  by_cases h0 : 0 ≤ v
  · by_cases h1 : v < N
    · go_enter Tryz.func39, Tryz.ntmps39
      go_wp2
      go_ret
      exact ⟨by simp [vtx, h0, h1], rfl⟩
    · go_enter Tryz.func39, Tryz.ntmps39
      go_wp2
      go_ret
      exact ⟨by simp [vtx, h0, h1], rfl⟩
  · go_enter Tryz.func39, Tryz.ntmps39
    go_wp2
    go_ret
    exact ⟨by rw [show vtx N v = false from by simp [vtx]; omega]; rfl, rfl⟩

/-- What changed answers: the pair goes on. -/
def ChR (p : Pr) (w : World) (e : Ending) (w' : World) : Prop := ∃ p' : Pr, e = .returned (.bool true) ∧ p'.x = p.x ∧ p'.g = p.g ∧ p'.At w' ∧ (∀ k, p'.own k → p.own k ∨ w.heap.size ≤ k) ∧ But p.own w w'

theorem ChR.same {p : Pr} {w w' : World} (h : p.At w) (b : Below w.heap.size w w') : ChR p w (.returned (.bool true)) w' := ⟨p, rfl, rfl, rfl, h.below b, fun _ q => Or.inl q, But.of b⟩

/-- An edge came on both sides. -/
theorem ChR.came {p : Pr} {w w1 w2 w3 : World} {u v : Nat} {c : Bool} (h : p.At w) (hu : u < p.G.N) (hv : v < p.G.N) (hne : u ≠ v) (hno : findIx p.G.edges (min (u : Int) v) (max (u : Int) v) = -1) (b1 : Below w.heap.size w w1) (b2 : But (fun k => k = p.x) w1 w2) (hi : IdxG w2 p.x (insG p.G u v (!c)) p.pr) {ev' : Value} {F' : Nat → Value}
    (hc : c = true ↔ Rch p.G.edges false 0 u v) (hg : GRep w3 p.g (insG p.G u v (!c)) ev' p.tb p.tcap F' p.pr) (ho : ∀ k, ev'.ownBlock = some k → p.ev.ownBlock = some k ∨ w2.heap.size ≤ k) (b3 : But (Own p.g p.tb p.ev) w2 w3) (hn : NoIt (Own p.g p.tb p.ev) w2) :
    ChR p w (.returned (.bool true)) w3 := by
  obtain ⟨g1, g2, _, _⟩ := ins_ok h.gi h.ns (u := (u : Int)) (v := (v : Int)) (by omega) (by omega) (by omega) (by omega) (by omega) hno hc
  have s1 := b1.size
  have s2 := b2.size
  have nx : ∀ k, Own p.g p.tb p.ev k → ¬ k = p.x := by
    intro k hk q
    have hx := h.ix.ty
    rcases hk with rfl | rfl | hk
    · exact (rowIs_ty h.gr.rg).ne hx (by decide) q
    · exact (rowIs_ty h.gr.rt).ne hx (by decide) q
    · exact h.gr.ed.notIn hx (by decide) k hk q
  refine ⟨⟨p.x, p.g, p.tb, p.tcap, ev', F', p.pr, insG p.G u v (!c)⟩, rfl, rfl, rfl, ⟨hi.but b3 (fun q => nx _ q rfl) hn, hg, g1, g2⟩, ?_, ?_⟩
  · intro k hk
    rcases hk with q | q | q | q
    · exact Or.inl (Or.inl q)
    · exact Or.inl (Or.inr (Or.inl q))
    · exact Or.inl (Or.inr (Or.inr (Or.inl q)))
    · rcases ho k q with r | r
      · exact Or.inl (Or.inr (Or.inr (Or.inr r)))
      · exact Or.inr (by omega)
  · exact ((But.of b1).trans b2 (fun _ _ q => Or.inl q)).trans b3 (fun _ _ q => Or.inr q)

/-- An edge went on both sides. -/
theorem ChR.went {p : Pr} {w w1 w2 w3 : World} {u v k : Nat} (h : p.At w) (hf : findIx p.G.edges (min (u : Int) v) (max (u : Int) v) = k) (b1 : Below w.heap.size w w1) (b2 : But (fun k => k = p.x) w1 w2) {G' : Gr} {ev' : Value} {F' : Nat → Value} {pr' : Int} (hi : IdxG w2 p.x G' pr')
    (hg : GRep w3 p.g G' ev' p.tb p.tcap F' pr') (hd : DEnd p.G k G') (ho : ∀ k, ev'.ownBlock = some k → w2.heap.size ≤ k) (b3 : But (Own p.g p.tb p.ev) w2 w3) (hn : NoIt (Own p.g p.tb p.ev) w2) :
    ChR p w (.returned (.bool true)) w3 := by
  obtain ⟨d1, _, d3, d4, d5⟩ := hd
  have s1 := b1.size
  have s2 := b2.size
  have nx : ∀ k, Own p.g p.tb p.ev k → ¬ k = p.x := by
    intro k hk q
    have hx := h.ix.ty
    rcases hk with rfl | rfl | hk
    · exact (rowIs_ty h.gr.rg).ne hx (by decide) q
    · exact (rowIs_ty h.gr.rt).ne hx (by decide) q
    · exact h.gr.ed.notIn hx (by decide) k hk q
  refine ⟨⟨p.x, p.g, p.tb, p.tcap, ev', F', pr', G'⟩, rfl, rfl, rfl, ⟨hi.but b3 (fun q => nx _ q rfl) hn, hg, d4, d5⟩, ?_, ?_⟩
  · intro k hk
    rcases hk with q | q | q | q
    · exact Or.inl (Or.inl q)
    · exact Or.inl (Or.inr (Or.inl q))
    · exact Or.inl (Or.inr (Or.inr (Or.inl q)))
    · exact Or.inr (by have := ho k q; omega)
  · exact ((But.of b1).trans b2 (fun _ _ q => Or.inl q)).trans b3 (fun _ _ q => Or.inr q)

/-- The graph's own blocks hold none of the program's items. -/
theorem own_noIt {w : World} {g tb tcap : Nat} {G : Gr} {ev : Value} {F : Nat → Value} {pr : Int} (h : GRep w g G ev tb tcap F pr) : NoIt (Own g tb ev) w := by
  intro k hk hlt q
  rcases hk with rfl | rfl | hk
  · exact (rowIs_ty h.rg).ne q (by decide) rfl
  · exact (rowIs_ty h.rt).ne q (by decide) rfl
  · exact h.ed.notIn q (by decide) k hk rfl

end Go.Proofs.YtckallochdegiaaGreat
