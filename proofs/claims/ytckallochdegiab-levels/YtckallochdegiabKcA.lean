import Derived.Test.YtckallochdegiabKpC
import Derived.WalkSmall
namespace Go.Proofs.Ytckallochdegiab
set_option linter.unusedVariables false
set_option linter.unusedSimpArgs false
open Go.RowKit

/-- y can be reached from v by the edges E. -/
def RE (n : Nat) (E : Nat → Nat → Bool) (v y : Nat) : Prop := ∀ S : Nat → Bool, S v = true → (∀ x z, x < n → z < n → E x z = true → S x = true → S z = true) → S y = true
theorem RE.refl {n : Nat} {E : Nat → Nat → Bool} {v : Nat} : RE n E v v := fun _ h _ => h
theorem RE.step {n : Nat} {E : Nat → Nat → Bool} {v x y : Nat} (h : RE n E v x) (hx : x < n) (hy : y < n) (he : E x y = true) : RE n E v y := fun S h1 h2 => h2 x y hx hy he (h S h1 h2)

theorem adj_edge {G : Gr} {E : Nat → Nat → Bool} (h : Adj G E) {x y : Nat} (hx : x < G.N) (hy : y < G.N) (he : E x y = true) : ∃ e, e ∈ G.edges ∧ ((e.u = x ∧ e.v = y) ∨ (e.u = y ∧ e.v = x)) := by
  obtain ⟨e, h1, h2⟩ := List.mem_map.1 ((h x y hx hy).1 he)
  refine ⟨e, h1, ?_⟩
  simp only [key, Prod.mk.injEq] at h2
  omega

theorem re_rch {G : Gr} {E : Nat → Nat → Bool} (hI : GI G) (h : Adj G E) {v y : Nat} (hv : v < G.N) (hy : y < G.N) : RE G.N E v y ↔ Rch G.edges false 0 v y := by
  constructor
  · intro q S h1 h2
    have := q (fun x => S (x : Int)) h1 (fun x z hx hz he hS => ?_)
    · exact this
    · obtain ⟨e, e1, e2⟩ := adj_edge h hx hz he
      have c := h2 e e1 rfl
      rcases e2 with ⟨a, b⟩ | ⟨a, b⟩
      · rw [a, b] at c; show S z = true; rw [← c]; exact hS
      · rw [a, b] at c; show S z = true; rw [c]; exact hS
  · intro q S h1 h2
    have := q (fun x => S x.toNat) (by simpa using h1) (fun e he _ => ?_)
    · simpa using this
    · have b := hI.ed e he
      have k : E e.u.toNat e.v.toNat = true := (h _ _ (by omega) (by omega)).2 (by
        unfold HasE
        rw [Int.toNat_of_nonneg (by omega), Int.toNat_of_nonneg (by omega), Int.min_eq_left (by omega), Int.max_eq_right (by omega)]
        exact List.mem_map.2 ⟨e, he, rfl⟩)
      have k2 : E e.v.toNat e.u.toNat = true := by rw [← h.sym (by omega) (by omega)]; exact k
      have a1 := h2 _ _ (by omega) (by omega) k
      have a2 := h2 _ _ (by omega) (by omega) k2
      show S e.u.toNat = S e.v.toNat
      cases q1 : S e.u.toNat <;> cases q2 : S e.v.toNat <;> simp_all

/-- The sum of the rows' counts. -/
def sm (E : Nat → Nat → Bool) (n : Nat) : Nat → Nat
  | 0 => 0
  | m + 1 => sm E n m + cnt (E m) n
theorem sm_le (E : Nat → Nat → Bool) (n m : Nat) : sm E n m ≤ m * n := by
  induction m with
  | zero => simp [sm]
  | succ m ih => have := cnt_le (E m) n; rw [sm, Nat.succ_mul]; omega
theorem sm_more (E : Nat → Nat → Bool) (n m : Nat) : sm E (n + 1) m = sm E n m + cnt (fun u => E u n) m := by
  induction m with
  | zero => rfl
  | succ m ih =>
    rw [sm, sm, ih, cnt_succ, cnt_succ]
    omega
theorem sm_two (E : Nat → Nat → Bool) (F : Nat → Nat → E3) (n : Nat) (h1 : ∀ u v, u < n → v < n → E u v = E v u) (h2 : ∀ u, u < n → E u u = false) (h3 : ∀ u v, u < n → v < n → E u v = (F u v).1) : ∀ m, m ≤ n → sm E m m = 2 * cE F m := by
  intro m
  induction m with
  | zero => intro _; rfl
  | succ m ih =>
    intro hm
    rw [sm, sm_more, ih (by omega), cnt_succ, h2 m (by omega), cE]
    have a : cnt (E m) m = cnt (fun u => (F u m).1) m := cnt_congr m (fun u hu => by rw [h1 m u (by omega) (by omega), h3 u m (by omega) (by omega)])
    have b : cnt (fun u => E u m) m = cnt (fun u => (F u m).1) m := cnt_congr m (fun u hu => by rw [h3 u m (by omega) (by omega)])
    rw [a, b]
    simp only [Bool.false_eq_true, if_false]
    omega
theorem sm_edges {G : Gr} {E : Nat → Nat → Bool} (hI : GI G) (h : Adj G E) : sm E G.N G.N = 2 * G.edges.length := by
  rw [← edges_count hI]
  refine sm_two E (look G.edges) G.N (fun u v hu hv => h.sym hu hv) (fun u hu => ?_) (fun u v hu hv => ?_) G.N (Nat.le_refl _)
  · cases q : E u u
    · rfl
    · obtain ⟨e, e1, e2⟩ := adj_edge h hu hu q
      have := hI.ed e e1
      omega
  · have a := h.find hu hv
    rw [Bool.eq_iff_iff, look_fst]
    constructor
    · exact a.2
    · rintro ⟨k, hk⟩
      cases q : E u v
      · have := a.1 q; omega
      · rfl

set_option maxRecDepth 100000 in
set_option maxHeartbeats 1000000 in
/-- count: how many of a row are so. -/
theorem count_any (w : World) (q n : Nat) (r : Nat → Bool) (h : w.rowIs q 4 n (fun y => .bool (r y))) (hn : n ≤ 48) :
    Calls Try.prog 28 #[.slice (some ⟨q, 0, none⟩) n n] w fun e w' => e = .returned (.int .i64 (cnt r n : Nat)) ∧ w' = w := by
  have HR := hid h
  clear h
  go_enter Try.func28, Try.ntmps28
  go_wp2_with fail
  go_loopw [3, 8] (fun a c wr => ∃ p k : Nat, k ≤ n ∧ a = .int .i64 p ∧ c = .int .i64 k ∧ p ≤ k ∧ Hid (p = cnt r k) ∧ wr = w) (fun _ c _ => n - (intOf c).toNat)
  case atStart => exact ⟨0, 0, by omega, rfl, rfl, by omega, rfl, rfl⟩
  case round =>
    obtain ⟨p, k, hk, rfl, rfl, hpk, hp, hw⟩ := hrel
    replace hw := hw.symm
    subst hw
    by_cases c : k < n
    · have c' : (k : Int) < (n : Int) := by omega
      have d := HR.out.cell (i := k) c
      have HC := hid (cnt_succ r k)
      cases hE : r k
      · rw [hE] at d
        have HE := hid hE
        clear hE
        go_wp2
        exact ⟨⟨p, k + 1, by omega, rfl, by go_num, by omega, by show _ = _; rw [HC.out, HE.out, hp.out]; simp, by trivial⟩, by simp [intOf]; omega⟩
      · rw [hE] at d
        have HE := hid hE
        clear hE
        go_wp2
        exact ⟨⟨p + 1, k + 1, by omega, by go_num, by go_num, by omega, by show _ = _; rw [HC.out, HE.out, hp.out]; simp, by trivial⟩, by simp [intOf]; omega⟩
    · have hke : k = n := by omega
      have HQ : Hid (p = cnt r n) := by show _ = _; rw [hp.out, hke]
      clear hke
      go_wp2
      go_ret
      exact ⟨ret_int (by have := HQ.out; omega), rfl⟩

set_option maxRecDepth 100000 in
set_option maxHeartbeats 1000000 in
/-- number: how many edges there are. -/
theorem number_any (w : World) (g : Gh) (W B n : Nat) (E : Nat → Nat → Bool) (h : Core w g W n E) (ap : Apart g W B n) :
    Calls Try.prog 32 #[ptr W] w fun e w' => e = .returned (.int .i64 (sm E n n / 2 : Nat)) ∧ w' = w := by
  have hn := ap.n48
  have hec := ap.ec
  unfold maxLen at hec
  have w3 := h.w3
  have HC := hid h
  clear h
  go_enter Try.func32, Try.ntmps32
  go_wp2_with fail
  go_loopw [3, 11] (fun a c wr => ∃ p k : Nat, k ≤ n ∧ a = .int .i64 p ∧ c = .int .i64 k ∧ p ≤ k * 48 ∧ Hid (p = sm E n k) ∧ wr = w) (fun _ c _ => n - (intOf c).toNat)
  case atStart => exact ⟨0, 0, by omega, rfl, rfl, by omega, rfl, rfl⟩
  case round =>
    obtain ⟨p, k, hk, rfl, rfl, hpk, hp, hw⟩ := hrel
    replace hw := hw.symm
    subst hw
    by_cases c : k < n
    · have c' : (k : Int) < (n : Int) := by omega
      have d := HC.out.re k c
      have HK := hid (HC.out.ce k c)
      have hcl := cnt_le (E k) n
      have HS : Hid (sm E n (k + 1) = sm E n k + cnt (E k) n) := rfl
      go_wp2_with fail
      refine (count_any w (g.er k) n (E k) HK.out hn).mono ?_
      rintro e w1 ⟨rfl, hw⟩
      replace hw := hw.symm
      subst hw
      generalize cnt (E k) n = z at HS hcl ⊢
      go_wp2
      exact ⟨⟨p + z, k + 1, by omega, by go_num, by go_num, by omega, by show _ = _; rw [HS.out, hp.out], by trivial⟩, by simp [intOf]; omega⟩
    · have hke : k = n := by omega
      have HQ : Hid (p = sm E n n) := by show _ = _; rw [hp.out, hke]
      clear hke
      go_wp2
      go_ret
      exact ⟨ret_int (by have := HQ.out; omega), rfl⟩

end Go.Proofs.Ytckallochdegiab
