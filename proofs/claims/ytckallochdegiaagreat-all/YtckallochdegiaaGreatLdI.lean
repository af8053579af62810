import Derived.Test.YtckallochdegiaaGreatFrD
import Derived.Laws.Rows
import Derived.Laws.ResultCell
namespace Go.Proofs.YtckallochdegiaaGreat
set_option linter.unusedVariables false
set_option linter.unusedSimpArgs false
open Go.RowKit

section
variable {N nt : Nat} {es : List Edg} {t ts : List Nat} {T : List (List (List Itm))}
/-- The levels read so far, and what is left. -/
def TQ (N : Nat) (es : List Edg) (nt : Nat) (t : List Nat) (T : List (List (List Itm))) (ts : List Nat) : Prop := toursG N es nt 0 t = match toursG N es (nt - T.length) T.length ts with | none => none | some y => some (T ++ y.1, y.2)
theorem TQ.start : TQ N es nt t [] t := by
  rw [TQ, List.length_nil, Nat.sub_zero]
  cases toursG N es nt 0 t <;> rfl
theorem tq_at {i : Nat} (hi : i < nt) : toursG N es (nt - i) i ts = match lvlF N es i ts with | none => none | some x => (match toursG N es (nt - (i + 1)) (i + 1) x.2 with | none => none | some y => some (x.1 :: y.1, y.2)) := by
  rw [show nt - i = (nt - (i + 1)) + 1 by omega, toursG]
  cases lvlF N es i ts with
  | none => rfl
  | some x => rfl
theorem TQ.step (h : TQ N es nt t T ts) (hi : T.length < nt) {l : List (List Itm)} {r : List Nat} (hw : lvlF N es T.length ts = some (l, r)) : TQ N es nt t (T ++ [l]) r := by
  rw [TQ, h, tq_at hi, hw, List.length_append, List.length_cons, List.length_nil]
  simp only
  cases toursG N es (nt - (T.length + (0 + 1))) (T.length + (0 + 1)) r <;> simp
theorem TQ.fail (h : TQ N es nt t T ts) (hi : T.length < nt) (hn : nt = Nat.log2 N + 1) (hw : lvlF N es T.length ts = none) : toursF N es t = none := by
  rw [toursF, ← hn, h, tq_at hi, hw]
theorem TQ.end_ (h : TQ N es nt t T ts) (hi : nt ≤ T.length) (hn : nt = Nat.log2 N + 1) : toursF N es t = if ts = [] then some T else none := by
  rw [toursF, ← hn, h, show nt - T.length = 0 by omega, toursG]
  simp
end

/-- The tours that a text tells. -/
def toursC (n : Nat) (es : List Edg) (s : ByteArray) : Option (List (List (List Itm))) := match numbersF s with
  | none => none
  | some t => toursF n es t

/-- What readTours answers. -/
def RToursR (n : Nat) (es : List Edg) (b : Nat) (s : ByteArray) (r : Int) (w : World) (e : Ending) (w' : World) : Prop :=
  e = .returned (.bool (toursC n es s).isSome) ∧ But (fun q => q = b) w w' ∧ ∀ T, toursC n es s = some T → T.length = Nat.log2 n + 1 ∧ ∃ R F, IdxP w' b n (look es) R r F ∧ Sim ⟨n, es, T⟩ R
theorem tours_no {n : Nat} {es : List Edg} {b : Nat} {s : ByteArray} {r : Int} {w w' : World} (h : toursC n es s = none) (hb : But (fun q => q = b) w w') : RToursR n es b s r w (.returned (.bool false)) w' :=
  ⟨by rw [h]; rfl, hb, fun T q => by rw [h] at q; simp at q⟩

/-- readTours, between two levels. -/
structure TrJ (n : Nat) (es : List Edg) (b rb : Nat) (v : Value) (ts : List Nat) (r : Int) (w wr : World) (T : List (List (List Itm))) (kk : Nat) : Prop where
  ix : ∃ R F, IdxP wr b n (look es) R r F ∧ (∀ j, j < T.length → FR (R j) (T[j]?.getD [])) ∧ ∀ j z, T.length ≤ j → R j z = newR n j z
  rd : Rdr wr rb v kk
  kk : kk ≤ ts.length
  bt : But (fun q => q = b) w wr
  nu : NumsAt wr w.heap.size v ts

set_option maxRecDepth 100000 in
set_option maxHeartbeats 4000000 in
theorem readTours_any (w : World) (b n : Nat) (es : List Edg) (r : Int) (F : Nat → Value) (s : ByteArray) (h : IdxP w b n (look es) (newR n) r F) (E : EdOK n es) (hs : s.size ≤ 2 ^ 30) :
    Calls Tryz.prog 51 #[ptr b, .string s] w (RToursR n es b s r w) := by
  have HX := hid h
  have HE := hid E
  have h1 := h.n0
  have h48 := h.n1
  have hblt := h.row.lt
  have hl5 := log2_le5 h1 h48
  clear h E
  go_enter Tryz.func51, Tryz.ntmps51
  go_wp2_with fail
  refine (fnums_any w s (by omega)).mono ?_
  rintro e w1 ⟨hcase, hb1⟩
  rcases hcase with ⟨hno, rfl⟩ | ⟨v, t, hnt, rfl, hnums, htl⟩
  · have HRt : Hid (RToursR n es b s r w (.returned (.bool false)) w1) := tours_no (by rw [toursC, hno]) (But.of hb1)
    clear hno hb1
    go_wp2_with fail
    go_ret
    exact HRt.out
  · obtain ⟨pp, cc, rfl⟩ : ∃ pp cc, v = .slice pp t.length cc := by
      rcases nums_at hnums with ⟨q, e⟩ | ⟨g, c, q, _⟩
      · rw [e]; exact ⟨none, 0, q⟩
      · exact ⟨_, _, q⟩
    have HTc : Hid (toursC n es s = toursF n es t) := by show _ = _; rw [toursC, hnt]
    have HNu := hid hnums
    have HX1 := hid (HX.out.below hb1)
    have HB1 := hid hb1
    have hcn := fun ob => (HX1.out.below ((Below.refl _ _).alloc (Nat.le_refl _) ob)).hn
    have hb1s := hb1.size
    clear hnt hnums hb1
    have HStart : Hid (TrJ n es b w1.heap.size (.slice pp t.length cc) t r w (w1.alloc (.cells #[.slice pp t.length cc, .int .i64 0] 125)) [] 0) := by
      have hal := (Below.refl w1.heap.size w1).alloc (Nat.le_refl _) (.cells #[.slice pp t.length cc, .int .i64 0] 125)
      refine ⟨⟨newR n, F, HX1.out.below hal, fun j hj => by simp at hj, fun _ _ _ => rfl⟩, ⟨fun j => if j = 0 then .slice pp t.length cc else .int .i64 0, ?_, rfl, rfl⟩, by omega, But.of (HB1.out.trans (hal.mono hb1s)), nums_but HNu.out (S := fun _ => False) (But.of hal) (fun _ q => q.elim)⟩
      exact World.rowIs_alloc w1 #[.slice pp t.length cc, .int .i64 0] 125 _ (fun i hi => by
        match i, hi with
        | 0, _ => rfl
        | 1, _ => rfl)
    clear HX1 HB1 HNu
    go_wp2_with fail
    generalize w1.alloc (.cells #[.slice pp t.length cc, .int .i64 0] 125) = wA at HStart ⊢
    have HRb : Hid (w.heap.size ≤ w1.heap.size) := hb1s
    generalize w1.heap.size = rb at HStart HRb ⊢
    refine (topLevel_any wA n h1 h48).mono ?_
    rintro e w2 ⟨rfl, hw⟩
    replace hw := hw.symm
    subst hw
    generalize hL : Nat.log2 n = L at hl5 ⊢
    have HLe := hid hL
    clear hL hcn
    have htl2 : t.length ≤ 2 ^ 30 := by omega
    go_wp2_with fail
    go_loopw [9] (fun q wr => ∃ (T : List (List (List Itm))) (kk : Nat), T.length ≤ L + 1 ∧ q = .int .i64 T.length ∧ Hid (TQ n es (L + 1) t T (t.drop kk)) ∧ Hid (TrJ n es b rb (.slice pp t.length cc) t r w wr T kk)) (fun q _ => L + 1 - (intOf q).toNat)
    case atStart => exact ⟨[], 0, by simp, rfl, TQ.start, HStart⟩
    case round =>
      obtain ⟨T, kk, hT, rfl, HTq, HJ⟩ := hrel
      by_cases cT : T.length ≤ L
      · have cT' : (T.length : Int) ≤ (L : Int) := by omega
        obtain ⟨R, F2, x1, x2, x3⟩ := HJ.out.ix
        have HX := hid x1
        have HXf := hid x2
        have HXn := hid x3
        clear x1 x2 x3
        go_wp2_with fail
        refine (readLevel_any wr b n rb w.heap.size T.length es R r F2 (.slice pp t.length cc) t kk HX.out HE.out (by omega) (fun z _ => by rw [HXn.out T.length z (Nat.le_refl _), newR, if_pos (by rw [HLe.out]; exact cT)]; rfl) HJ.out.rd HJ.out.nu HJ.out.kk htl2).mono ?_
        rintro e w3 ⟨c, rfl, hb3, hno, hyes⟩
        have HB3 : Hid (But (fun q => q = b) w w3) := HJ.out.bt.trans hb3 (fun j hj q => q.elim id (fun q => by have := HRb.out; omega))
        cases hp : plvF n es T.length (t.drop kk) with
        | none =>
          have hc := hno hp
          subst hc
          have HRt : Hid (RToursR n es b s r w (.returned (.bool false)) w3) := tours_no (by rw [HTc.out]; exact HTq.out.fail (by omega) (by rw [HLe.out]) (plv_none HE.out h48 hp)) HB3.out
          clear hno hyes hb3 hp
          go_wp2_with fail
          go_ret
          exact HRt.out
        | some y =>
          obtain ⟨ls, t'⟩ := y
          obtain ⟨hc, Ri, F3, k', z1, z2, z3, z4, z5⟩ := hyes ls t' hp
          subst hc
          obtain ⟨p1, p2⟩ := plv_some HE.out h48 hp
          have HTq2 : Hid (TQ n es (L + 1) t (T ++ [(onesV n es T.length).map oneT ++ ls]) (t.drop k')) := by
            show TQ _ _ _ _ _ _
            rw [z4]; exact HTq.out.step (by omega) p1
          have HJ2 : Hid (TrJ n es b rb (.slice pp t.length cc) t r w w3 (T ++ [(onesV n es T.length).map oneT ++ ls]) k') := by
            refine ⟨⟨_, F3, z1, fun j hj => ?_, fun j z hj => ?_⟩, z5, z3, HB3.out, nums_but HJ.out.nu hb3 (fun q hq _ hty => ?_)⟩
            · rw [List.length_append, List.length_cons, List.length_nil] at hj
              by_cases cj : j = T.length
              · subst cj
                rw [if_pos rfl, List.getElem?_append_right (Nat.le_refl _), Nat.sub_self]
                exact z2.fr HE.out h48 p2
              · rw [if_neg cj, List.getElem?_append_left (by omega)]
                exact HXf.out j (by omega)
            · rw [List.length_append, List.length_cons, List.length_nil] at hj
              rw [if_neg (by omega)]
              exact HXn.out j z (by omega)
            · rcases hq with rfl | rfl
              · exact hty.ne HX.out.ty (by decide) rfl
              · exact hty.ne HJ.out.rd.ty (by decide) rfl
          have HLn : Hid ((T ++ [(onesV n es T.length).map oneT ++ ls]).length = T.length + 1) := by show _ = _; simp
          clear hno hyes hb3 hp z1 z2 z3 z4 z5 p1 p2 HTq HJ HX HXf HXn
          generalize T ++ [(onesV n es T.length).map oneT ++ ls] = T2 at HTq2 HJ2 HLn
          go_wp2
          exact ⟨⟨T2, k', by rw [HLn.out]; omega, by rw [HLn.out]; go_num, HTq2, HJ2⟩, by simp [intOf]; omega⟩
      · have cT' : ¬ (T.length : Int) ≤ (L : Int) := by omega
        have he := HTq.out.end_ (by omega) (by rw [HLe.out])
        have hkk := HJ.out.kk
        obtain ⟨Fr, r1, r2, r3⟩ := HJ.out.rd
        have c1 := r1.cell (i := 1) (by omega)
        rw [r3] at c1
        have HRt : Hid (∀ wz, Below wr.heap.size wr wz → RToursR n es b s r w (.returned (.bool ((kk : Int) == (t.length : Int)))) wz) := fun wz hwz => by
          have hbz : But (fun q => q = b) w wz := HJ.out.bt.trans (S' := fun _ => False) (But.of hwz) (fun _ _ q => q.elim)
          have dk : t.drop kk = [] ↔ kk = t.length := by
            rw [List.drop_eq_nil_iff]; omega
          by_cases q : kk = t.length
          · rw [if_pos (dk.2 q), ← HTc.out] at he
            refine ⟨by rw [he, q]; simp, hbz, fun T' hT' => ?_⟩
            rw [he] at hT'
            injection hT' with hT'
            subst hT'
            obtain ⟨R, F2, x1, x2, x3⟩ := HJ.out.ix
            refine ⟨by rw [HLe.out]; omega, R, F2, x1.below hwz, ⟨fun k hk => x2 k (by simp only at hk; rw [HLe.out] at hk; omega), fun k z hk h6 hz => ?_⟩⟩
            simp only at hk
            rw [HLe.out] at hk
            rw [x3 k z (by omega), newR, if_neg (by rw [HLe.out]; omega)]
          · rw [if_neg (fun z => q (dk.1 z)), ← HTc.out] at he
            have : ((kk : Int) == (t.length : Int)) = false := beq_eq_false_iff_ne.2 (by omega)
            rw [this]
            exact tours_no he hbz
        clear he r1 r2 r3 HTq HJ
        go_wp2_with fail
        go_ret
        exact HRt.out _ (Below.refl _ _)

end Go.Proofs.YtckallochdegiaaGreat
namespace Go.Proofs.YtckallochdegiaaGreat
set_option linter.unusedVariables false
set_option linter.unusedSimpArgs false
open Go.RowKit

/-- What splitFrames answers. -/
def SpR (s : ByteArray) (w : World) (e : Ending) (w' : World) : Prop :=
  ((partsF s = none ∧ ∃ a b c : ByteArray, e = .returned (.tuple #[.agg #[.string a, .string b, .string c], .bool false])) ∨ (∃ a b c, partsF s = some [a, b, c] ∧ e = .returned (.tuple #[.agg #[.string a, .string b, .string c], .bool true]) ∧ a.size + b.size + c.size ≤ s.size)) ∧ Below w.heap.size w w'

theorem row3 {w : World} {g t : Nat} {F : Nat → Value} (h : w.rowIs g t 3 F) : w.heap[g]? = some (.cells #[F 0, F 1, F 2] t (0, 0)) := by
  obtain ⟨cs, h1, h2, h3⟩ := h
  rw [h1]
  congr 2
  refine Array.ext (by simp [h2]) (fun i hi hj => ?_)
  have := h3 i (by omega)
  rw [Array.getElem?_eq_getElem hi] at this
  injection this with this
  rw [this]
  match i, (show i < 3 by omega) with
  | 0, _ => rfl
  | 1, _ => rfl
  | 2, _ => rfl
theorem results_row3 {fn : Func} {p u : Tmp} (h : fn.results = #[.cell p 78, .tmp u]) (tmps : Array Value) (w : World) (g : Nat) (hp : tmps.getD p undef = .pointer (some ⟨g, 0, none⟩)) {F : Nat → Value} (hr : w.rowIs g 78 3 F) :
    (results fn tmps).run Tryz.prog w = .ok (.tuple #[.agg #[F 0, F 1, F 2], tmps.getD u undef]) w := by
  rw [results_cell_tmp h, hp]
  simp only [asAddr, Sem.run_pure, Result.andThen_ok]
  rw [run_loadVar_row w g _ _ _ _ _ (row3 hr) Tryz.underlying78 rfl (by kernel_rfl)]
  rfl

theorem row_congr {w : World} {b t n : Nat} {f f' : Nat → Value} (h : w.rowIs b t n f) (e : ∀ i, i < n → f i = f' i) : w.rowIs b t n f' := by
  obtain ⟨cs, h1, h2, h3⟩ := h
  exact ⟨cs, h1, h2, fun i hi => by rw [← e i hi]; exact h3 i hi⟩
theorem below_set {w w1 : World} {B b : Nat} (h : Below B w w1) (hb : B ≤ b) (hB : B ≤ w1.heap.size) (o : Nat) (v : Value) : Below B w (w1.setCell ⟨b, o, none⟩ v) :=
  h.trans ((But.setCell w1 ⟨b, o, none⟩ v).below (fun k hk => by subst hk; exact hb) hB)
theorem size_set (w : World) (a : Addr) (v : Value) : (w.setCell a v).heap.size = w.heap.size := by simp [World.setCell]

/-- splitFrames, l of the texts laid at g, t left. -/
structure SpJ (s : ByteArray) (w wr : World) (l : List ByteArray) (t : ByteArray) : Prop where
  c : wr.rowIs (w.heap.size + 1) 78 3 (fun j => .string (l[j]?.getD ⟨#[]⟩))
  z : wr.rowIs w.heap.size 78 3 (fun _ => .string ⟨#[]⟩)
  b : Below w.heap.size w wr
  g : partsG 3 s [] = partsG (3 - l.length) t l
  sz : (l.map (·.size)).sum + t.size ≤ s.size

set_option maxRecDepth 100000 in
set_option maxHeartbeats 4000000 in
theorem splitFrames_any (w : World) (s : ByteArray) (hs : s.size ≤ 1000000000) : Calls Tryz.prog 48 #[.string s] w (SpR s w) := by
  have HS : Hid (SpJ s w ((w.alloc (.cells #[.string ⟨#[]⟩, .string ⟨#[]⟩, .string ⟨#[]⟩] 78)).alloc (.cells #[.string ⟨#[]⟩, .string ⟨#[]⟩, .string ⟨#[]⟩] 78)) [] s) := by
    have r0 := World.rowIs_alloc w #[.string ⟨#[]⟩, .string ⟨#[]⟩, .string ⟨#[]⟩] 78 (fun _ => .string ⟨#[]⟩) (fun i hi => by match i, (show i < 3 from hi) with | 0, _ => rfl | 1, _ => rfl | 2, _ => rfl)
    have r1 := World.rowIs_alloc (w.alloc (.cells #[.string ⟨#[]⟩, .string ⟨#[]⟩, .string ⟨#[]⟩] 78)) #[.string ⟨#[]⟩, .string ⟨#[]⟩, .string ⟨#[]⟩] 78 (fun _ => .string ⟨#[]⟩) (fun i hi => by match i, (show i < 3 from hi) with | 0, _ => rfl | 1, _ => rfl | 2, _ => rfl)
    refine ⟨?_, r0.alloc _, ((Below.refl _ _).alloc (Nat.le_refl _) _).alloc (by simp) _, rfl, by simp⟩
    simp only [World.size_alloc] at r1
    simpa using r1
  go_enter Tryz.func48, Tryz.ntmps48
  go_wp2_with fail
  generalize (w.alloc (.cells #[.string ⟨#[]⟩, .string ⟨#[]⟩, .string ⟨#[]⟩] 78)).alloc (.cells #[.string ⟨#[]⟩, .string ⟨#[]⟩, .string ⟨#[]⟩] 78) = wA at HS ⊢
  go_loopw [0, 9] (fun a q wr => ∃ (t : ByteArray) (l : List ByteArray), a = .string t ∧ q = .int .i64 l.length ∧ l.length ≤ 3 ∧ Hid (SpJ s w wr l t)) (fun _ q _ => 3 - (intOf q).toNat)
  case atStart => exact ⟨s, [], rfl, rfl, by simp, HS⟩
  case round =>
    obtain ⟨t, l, rfl, rfl, hl, HJ⟩ := hrel
    by_cases cl : l.length < 3
    · have cl' : (l.length : Int) < 3 := by omega
      have hts : t.size ≤ 1000000000 := by have := HJ.out.sz; omega
      go_wp2_with fail
      refine (fsplit_any wr t hts).mono ?_
      rintro e w2 ⟨hcase, hb2⟩
      have hbs := HJ.out.b.size
      have HC2 := hid (row_but (S := fun _ => False) HJ.out.c (But.of hb2) (fun q => q))
      have HZ2 := hid (row_but (S := fun _ => False) HJ.out.z (But.of hb2) (fun q => q))
      have HB2 : Hid (Below w.heap.size w w2) := HJ.out.b.trans (hb2.mono hbs)
      have z0 := HZ2.out.cell (i := 0) (by omega)
      have z1 := HZ2.out.cell (i := 1) (by omega)
      have z2 := HZ2.out.cell (i := 2) (by omega)
      have zf := HZ2.out.frozen
      have hg : partsG 3 s [] = match partF t with | some x => partsG (3 - (l.length + 1)) x.2 (l ++ [x.1]) | none => none := by
        rw [HJ.out.g, show 3 - l.length = (3 - (l.length + 1)) + 1 by omega, partsG]
        cases partF t <;> rfl
      rcases hcase with ⟨hno, rfl⟩ | ⟨⟨x1, x2⟩, hyes, rfl, hsz⟩
      · have HP : Hid (partsF s = none) := by show _ = _; rw [partsF, hg, hno]
        have h2s := HB2.out.size
        clear hg hno hb2
        go_wp2_with fail
        refine bodyPost_ret (results_row3 rfl _ _ w.heap.size rfl (((HZ2.out.set _ _).set _ _).set _ _)) rfl ?_
        exact ⟨Or.inl ⟨HP.out, ⟨#[]⟩, ⟨#[]⟩, ⟨#[]⟩, rfl⟩, below_set (below_set (below_set HB2.out (Nat.le_refl _) h2s _ _) (Nat.le_refl _) (by rw [size_set]; exact h2s) _ _) (Nat.le_refl _) (by rw [size_set, size_set]; exact h2s) _ _⟩
      · have d := HC2.out.cell (i := l.length) (by omega)
        have df := HC2.out.frozen
        have h2s := HB2.out.size
        have hbl : w.heap.size + 1 < w2.heap.size := HC2.out.lt
        have HJ2 : Hid (SpJ s w (w2.setCell ⟨w.heap.size + 1, l.length, none⟩ (.string x1)) (l ++ [x1]) x2) := by
          refine ⟨row_congr (HC2.out.set l.length (.string x1)) (fun j hj => ?_), row_but (S := fun k => k = w.heap.size + 1) HZ2.out (But.setCell w2 ⟨w.heap.size + 1, l.length, none⟩ _) (by omega), below_set HB2.out (by omega) h2s _ _, ?_, ?_⟩
          · by_cases c : j = l.length
            · subst c; rw [if_pos rfl, List.getElem?_append_right (Nat.le_refl _), Nat.sub_self]; rfl
            · rw [if_neg c]
              by_cases c2 : j < l.length
              · rw [List.getElem?_append_left c2]
              · rw [List.getElem?_eq_none (by omega), List.getElem?_eq_none (by rw [List.length_append]; simp; omega)]
          · rw [hg, hyes, List.length_append]; rfl
          · have := HJ.out.sz
            rw [List.map_append, List.sum_append]
            simp only [List.map_cons, List.map_nil, List.sum_cons, List.sum_nil] at hsz ⊢
            omega
        have HLn : Hid ((l ++ [x1]).length = l.length + 1) := by show _ = _; simp
        clear hg hyes hb2 hsz HJ HC2 HZ2
        generalize l ++ [x1] = l2 at HJ2 HLn
        go_wp2
        exact ⟨⟨x2, l2, rfl, by rw [HLn.out]; go_num, by rw [HLn.out]; omega, HJ2⟩, by simp [intOf]; omega⟩
    · have hle : l.length = 3 := by omega
      have cl' : ¬ (l.length : Int) < 3 := by omega
      have hg : partsF s = if t.size = 0 then some l else none := by
        rw [partsF, HJ.out.g, hle]; rfl
      have hbs := HJ.out.b.size
      have HZ2 := hid HJ.out.z
      have HB2 := hid HJ.out.b
      have hts : t.size ≤ 1000000000 := by have := HJ.out.sz; omega
      have z0 := HZ2.out.cell (i := 0) (by omega)
      have z1 := HZ2.out.cell (i := 1) (by omega)
      have z2 := HZ2.out.cell (i := 2) (by omega)
      have zf := HZ2.out.frozen
      by_cases ct : 0 < t.size
      · have ct' : (0 : Int) < (t.size : Int) := by omega
        have HP : Hid (partsF s = none) := by show _ = _; rw [hg, if_neg (by omega)]
        clear hg hle
        go_wp2_with fail
        refine bodyPost_ret (results_row3 rfl _ _ w.heap.size rfl (((HZ2.out.set _ _).set _ _).set _ _)) rfl ?_
        exact ⟨Or.inl ⟨HP.out, ⟨#[]⟩, ⟨#[]⟩, ⟨#[]⟩, rfl⟩, below_set (below_set (below_set HB2.out (Nat.le_refl _) hbs _ _) (Nat.le_refl _) (by rw [size_set]; exact hbs) _ _) (Nat.le_refl _) (by rw [size_set, size_set]; exact hbs) _ _⟩
      · have ct' : ¬ (0 : Int) < (t.size : Int) := by omega
        match l, hle, HJ, hg, cl' with
        | [p0, p1, p2], _, HJ, hg, cl' =>
          have HP : Hid (partsF s = some [p0, p1, p2]) := by show _ = _; rw [hg, if_pos (by omega)]
          have c0 := HJ.out.c.cell (i := 0) (by omega)
          have c1 := HJ.out.c.cell (i := 1) (by omega)
          have c2 := HJ.out.c.cell (i := 2) (by omega)
          have HSz : Hid (p0.size + p1.size + p2.size ≤ s.size) := by show _ ≤ _; have := HJ.out.sz; simp at this; omega
          simp only [List.getElem?_cons_zero, List.getElem?_cons_succ, Option.getD_some] at c0 c1 c2
          clear hg HJ
          go_wp2_with fail
          refine bodyPost_ret (results_row3 rfl _ _ w.heap.size rfl (((HZ2.out.set _ _).set _ _).set _ _)) rfl ?_
          exact ⟨Or.inr ⟨p0, p1, p2, HP.out, rfl, HSz.out⟩, below_set (below_set (below_set HB2.out (Nat.le_refl _) hbs _ _) (Nat.le_refl _) (by rw [size_set]; exact hbs) _ _) (Nat.le_refl _) (by rw [size_set, size_set]; exact hbs) _ _⟩

set_option maxRecDepth 100000 in
set_option maxHeartbeats 1000000 in
theorem unmarked_any (w : World) (x : Nat) (hx : x ≤ 268435456) : Calls Tryz.prog 83 #[.int .i64 x] w fun e w' => e = .returned (.agg #[.bool true, .bool (x % 2 == 1), .int .i64 ((x / 2 : Nat) : Int)]) ∧ Below w.heap.size w w' := by
  have h1 : ((x : Int) % 2 == 1) = (x % 2 == 1) := by
    rw [Bool.eq_iff_iff]
    simp only [beq_iff_eq]; omega
  have h2 : (x : Int) / 2 = ((x / 2 : Nat) : Int) := by omega
  have H := hid (And.intro h1 h2)
  clear h1 h2
  go_enter Tryz.func83, Tryz.ntmps83
  go_wp2_with fail
  refine bodyPost_ret (results_cell_row rfl _ _ w.heap.size 95 _ (0, 0) _ rfl (heap_alloc_new _ _) Tryz.underlying95 rfl (by kernel_rfl)) rfl ?_
  exact ⟨by rw [← H.out.1, ← H.out.2], (Below.refl _ _).alloc (Nat.le_refl _) _⟩

end Go.Proofs.YtckallochdegiaaGreat
namespace Go.Proofs.YtckallochdegiaaGreat
set_option linter.unusedVariables false
set_option linter.unusedSimpArgs false
open Go.RowKit

theorem look_nil : look [] = fun _ _ => (false, false, 0) := by
  funext u v
  exact look_no rfl

/-- What readVertices answers. -/
def VtxR (s : ByteArray) (w : World) (e : Ending) (w' : World) : Prop :=
  ((∃ n F b, numbersF s = some [n] ∧ 1 ≤ n ∧ n ≤ 48 ∧ e = .returned (ptr b) ∧ w.heap.size ≤ b ∧ IdxP w' b n (look []) (newR n) 0 F) ∨ (e = .returned (.pointer none) ∧ ∀ ns, numbersF s = some ns → ¬ (ns.length = 1 ∧ 1 ≤ ns[0]?.getD 0 ∧ ns[0]?.getD 0 ≤ 48))) ∧ Below w.heap.size w w'

set_option maxRecDepth 100000 in
set_option maxHeartbeats 2000000 in
theorem readVertices_any (w : World) (s : ByteArray) (sd : Int) (hs : s.size ≤ 2 ^ 30) : Calls Tryz.prog 49 #[.string s, .int .i64 sd] w (VtxR s w) := by
  go_enter Tryz.func49, Tryz.ntmps49
  go_wp2_with fail
  refine (fnums_any w s (by omega)).mono ?_
  rintro e w1 ⟨hcase, hb1⟩
  have HB1 := hid hb1
  rcases hcase with ⟨hno, rfl⟩ | ⟨v, t, hnt, rfl, hnums, htl⟩
  · have HRt : Hid (VtxR s w (.returned (.pointer none)) w1) := ⟨Or.inr ⟨rfl, fun ns q => by rw [hno] at q; simp at q⟩, hb1⟩
    clear hno hb1
    go_wp2_with fail
    go_ret
    exact HRt.out
  · by_cases ct : t.length = 1
    · match t, ct with
      | [x], _ =>
        obtain ⟨g, c, rfl, hg, _, hc1, hc2, _, hcell⟩ := hnums.at_ (by simp)
        have d := hcell 0 (by simp)
        have hx := hnums.2 x (by simp)
        simp only [List.length_cons, List.length_nil, List.getElem?_cons_zero, Option.getD_some] at d hc1 ⊢
        unfold maxLen at hc2
        have HNt := hid hnt
        have hb1s := hb1.size
        clear hnums hcell hnt hb1 htl
        by_cases c1 : 1 ≤ x ∧ x ≤ 48
        · go_wp2_with fail
          refine (New_ok x sd w1 c1.1 c1.2).mono ?_
          rintro e w2 ⟨rfl, ⟨F, hF⟩, hlt, hb2⟩
          have HRt : Hid (VtxR s w (.returned (ptr w1.heap.size)) w2) := ⟨Or.inl ⟨x, F, w1.heap.size, HNt.out, c1.1, c1.2, rfl, hb1s, by rw [look_nil]; exact hF⟩, HB1.out.trans (hb2.mono hb1s)⟩
          clear hF hb2 hlt
          go_wp2_with fail
          go_ret
          exact HRt.out
        · go_wp2_with fail
          refine (New_bad x sd w1 (by omega)).mono ?_
          rintro e w2 ⟨rfl, hw⟩
          replace hw := hw.symm
          subst hw
          have HRt : Hid (VtxR s w (.returned (.pointer none)) w1) := ⟨Or.inr ⟨rfl, fun ns q => by rw [HNt.out] at q; injection q with q; subst q; simp; omega⟩, HB1.out⟩
          go_wp2_with fail
          go_ret
          exact HRt.out
    · have HRt : Hid (VtxR s w (.returned (.pointer none)) w1) := ⟨Or.inr ⟨rfl, fun ns q => by rw [hnt] at q; injection q with q; subst q; omega⟩, hb1⟩
      obtain ⟨pp, cc, rfl⟩ : ∃ pp cc, v = .slice pp t.length cc := by
        rcases nums_at hnums with ⟨q, e⟩ | ⟨g, c, q, _⟩
        · rw [e]; exact ⟨none, 0, q⟩
        · exact ⟨_, _, q⟩
      have ct' : ((t.length : Int) != 1) = true := by simp; omega
      clear hnt hb1 hnums
      go_wp2_with fail
      go_ret
      exact HRt.out

/-- How far the edges have come. -/
def RQ (n : Nat) (ms : List Nat) (kk : Nat) (z : Int) (es : List Edg) : Prop := recF n (-1) (ms.drop 1) = match recF n z (ms.drop kk) with | none => none | some r => some (es ++ r)
section
variable {n kk : Nat} {ms : List Nat} {z : Int} {es : List Edg}
theorem RQ.start : RQ n ms 1 (-1) [] := by
  rw [RQ]
  cases recF n (-1) (ms.drop 1) <;> rfl
theorem rq_drop (h : kk + 2 < ms.length) : ms.drop kk = ms[kk]?.getD 0 :: ms[kk + 1]?.getD 0 :: ms[kk + 2]?.getD 0 :: ms.drop (kk + 3) := by
  rw [List.getElem?_eq_getElem (show kk < ms.length by omega), List.getElem?_eq_getElem (show kk + 1 < ms.length by omega), List.getElem?_eq_getElem h, List.drop_eq_getElem_cons (show kk < ms.length by omega), List.drop_eq_getElem_cons (show kk + 1 < ms.length by omega), List.drop_eq_getElem_cons h]
  rfl
theorem RQ.fail (h : RQ n ms kk z es) (hk : kk + 2 < ms.length) (hb : ms[kk + 1]?.getD 0 ≤ ms[kk]?.getD 0 ∨ n ≤ ms[kk + 1]?.getD 0 ∨ ((ms[kk]?.getD 0 * n + ms[kk + 1]?.getD 0 : Nat) : Int) ≤ z ∨ Nat.log2 n < ms[kk + 2]?.getD 0 / 2) : recF n (-1) (ms.drop 1) = none := by
  rw [RQ, rq_drop hk, recF, if_pos hb] at h
  exact h
theorem RQ.step (h : RQ n ms kk z es) (hk : kk + 2 < ms.length) (hb : ¬ (ms[kk + 1]?.getD 0 ≤ ms[kk]?.getD 0 ∨ n ≤ ms[kk + 1]?.getD 0 ∨ ((ms[kk]?.getD 0 * n + ms[kk + 1]?.getD 0 : Nat) : Int) ≤ z ∨ Nat.log2 n < ms[kk + 2]?.getD 0 / 2)) :
    RQ n ms (kk + 3) ((ms[kk]?.getD 0 * n + ms[kk + 1]?.getD 0 : Nat) : Int) (es ++ [(⟨((ms[kk]?.getD 0 : Nat) : Int), ((ms[kk + 1]?.getD 0 : Nat) : Int), ((ms[kk + 2]?.getD 0 / 2 : Nat) : Int), ms[kk + 2]?.getD 0 % 2 == 1⟩ : Edg)]) := by
  rw [RQ, rq_drop hk, recF, if_neg hb] at h
  rw [RQ, h]
  cases recF n ((ms[kk]?.getD 0 * n + ms[kk + 1]?.getD 0 : Nat) : Int) (ms.drop (kk + 3)) <;> simp
theorem RQ.end_ (h : RQ n ms kk z es) (hk : ms.length ≤ kk) : recF n (-1) (ms.drop 1) = some es := by
  rw [RQ, List.drop_eq_nil_of_le hk, recF] at h
  rw [h]; simp
end

/-- The place of the last edge, as the program and as the document reckon it. -/
def LaR (n : Nat) (la z : Int) : Prop := (la = -1 ∧ z = -1) ∨ ∃ a b : Nat, b < n ∧ la = a * 48 + b ∧ z = a * n + b
theorem LaR.le {n : Nat} {la z : Int} (h : LaR n la z) (hn : n ≤ 48) {a b : Nat} (hb : b < n) : ((a : Int) * 48 + b ≤ la) ↔ ((a * n + b : Nat) : Int) ≤ z := by
  have pc : ((a * n + b : Nat) : Int) = (a : Int) * n + b := by simp
  rw [pc]
  rcases h with ⟨rfl, rfl⟩ | ⟨c, d, hd, rfl, rfl⟩
  · have : (0 : Int) ≤ (a : Int) * n := Int.mul_nonneg (by omega) (by omega)
    omega
  · have k1 := lt_place (n := 48) (a := c) (b := d) (c := a) (d := b) (by omega) (by omega) (by omega) (by omega)
    have k2 := lt_place (n := n) (a := c) (b := d) (c := a) (d := b) (by omega) (by omega) (by omega) (by omega)
    have k3 : (c : Int) * 48 + d < (a : Int) * 48 + b ↔ (c : Int) * n + d < (a : Int) * n + b := k1.trans k2.symm
    constructor
    · intro q
      refine Int.not_lt.1 (fun r => ?_)
      have := k3.2 r; omega
    · intro q
      refine Int.not_lt.1 (fun r => ?_)
      have := k3.1 r; omega

/-- readEdges, between two edges. -/
structure EdJ (n : Nat) (b : Nat) (ms : List Nat) (R : Nat → Nat → List Itm) (r : Int) (w wr : World) (kk : Nat) (la z : Int) (es : List Edg) : Prop where
  rq : RQ n ms kk z es
  la : LaR n la z
  ed : ∀ e, e ∈ es → e.u * n + e.v ≤ z ∧ 0 ≤ e.u ∧ e.u < e.v ∧ e.v < n
  nd : (es.map key).Nodup
  ix : ∃ F, IdxP wr b n (look es) R r F
  bt : But (fun q => q = b) w wr

theorem EdJ.next {n b : Nat} {ms : List Nat} {R : Nat → Nat → List Itm} {r : Int} {w wr w' : World} {kk a d c : Nat} {la z : Int} {es : List Edg} {F' : Nat → Value} (h : EdJ n b ms R r w wr kk la z es) (hk : kk + 2 < ms.length) (ha : ms[kk]?.getD 0 = a) (hd : ms[kk + 1]?.getD 0 = d) (hc : ms[kk + 2]?.getD 0 = c)
    (h1 : a < d) (h2 : d < n) (h3 : ¬ ((a * n + d : Nat) : Int) ≤ z) (h4 : c / 2 ≤ Nat.log2 n) (hi : IdxP w' b n (updE (look es) a d (true, c % 2 == 1, ((c / 2 : Nat) : Int))) R r F') (hb : But (fun q => q = b) wr w') :
    EdJ n b ms R r w w' (kk + 3) ((a : Int) * 48 + d) ((a * n + d : Nat) : Int) (es ++ [⟨(a : Int), (d : Int), ((c / 2 : Nat) : Int), c % 2 == 1⟩]) := by
  have st := h.rq.step hk (by rw [ha, hd, hc]; omega)
  rw [ha, hd, hc] at st
  have pc : ((a * n + d : Nat) : Int) = (a : Int) * n + d := by simp
  have hno : ((a : Int), (d : Int)) ∉ es.map key := by
    intro q
    obtain ⟨e, he, k⟩ := List.mem_map.1 q
    rw [key] at k
    injection k with k1 k2
    have := (h.ed e he).1
    rw [k1, k2] at this
    omega
  have mm : min (a : Int) d = a ∧ max (a : Int) d = d := by omega
  refine ⟨st, Or.inr ⟨a, d, h2, rfl, by simp⟩, fun e he => ?_, ?_, ⟨F', hi.congr (fun u v _ _ => ?_) (fun _ _ _ _ => rfl)⟩, h.bt.same hb⟩
  · rcases List.mem_append.1 he with q | q
    · have := h.ed e q
      omega
    · simp at q
      subst q
      simp only
      omega
  · rw [List.map_append, List.nodup_append]
    refine ⟨h.nd, by simp, fun x hx y hy q => ?_⟩
    simp [key] at hy
    rw [hy] at q
    exact hno (q ▸ hx)
  · exact (look_add h.nd (u := a) (v := d) (e' := ⟨(a : Int), (d : Int), ((c / 2 : Nat) : Int), c % 2 == 1⟩) (find_none (by rw [mm.1, mm.2]; exact hno)) (by rw [mm.1, mm.2]; rfl) u v).symm

/-- The edges that a text tells. -/
def edgesC (n : Nat) (s : ByteArray) : Option (List Edg) := match numbersF s with
  | none => none
  | some ms => if 0 < ms.length ∧ ms.length = 1 + 3 * ms[0]?.getD 0 then recF n (-1) (ms.drop 1) else none
/-- What readEdges answers. -/
def EdgesR (n b : Nat) (s : ByteArray) (R : Nat → Nat → List Itm) (r : Int) (w : World) (e : Ending) (w' : World) : Prop :=
  e = .returned (.bool (edgesC n s).isSome) ∧ But (fun q => q = b) w w' ∧ ∀ es, edgesC n s = some es → ∃ F, IdxP w' b n (look es) R r F
theorem edges_no {n b : Nat} {s : ByteArray} {R : Nat → Nat → List Itm} {r : Int} {w w' : World} (h : edgesC n s = none) (hb : But (fun q => q = b) w w') : EdgesR n b s R r w (.returned (.bool false)) w' :=
  ⟨by rw [h]; rfl, hb, fun T q => by rw [h] at q; simp at q⟩

set_option maxRecDepth 100000 in
set_option maxHeartbeats 4000000 in
theorem readEdges_any (w : World) (b n : Nat) (R : Nat → Nat → List Itm) (r : Int) (F : Nat → Value) (s : ByteArray) (h : IdxP w b n (look []) R r F) (hs : s.size ≤ 2 ^ 30) :
    Calls Tryz.prog 50 #[ptr b, .string s] w (EdgesR n b s R r w) := by
  have HX := hid h
  have h1 := h.n0
  have h48 := h.n1
  have hblt := h.row.lt
  have hl5 := log2_le5 h1 h48
  clear h
  go_enter Tryz.func50, Tryz.ntmps50
  go_wp2_with fail
  refine (fnums_any w s (by omega)).mono ?_
  rintro e w1 ⟨hcase, hb1⟩
  rcases hcase with ⟨hno, rfl⟩ | ⟨v, ms, hnt, rfl, hnums, htl⟩
  · have HRt : Hid (EdgesR n b s R r w (.returned (.bool false)) w1) := edges_no (by rw [edgesC, hno]) (But.of hb1)
    clear hno hb1
    go_wp2_with fail
    go_ret
    exact HRt.out
  · have HEc : Hid (edgesC n s = if 0 < ms.length ∧ ms.length = 1 + 3 * ms[0]?.getD 0 then recF n (-1) (ms.drop 1) else none) := by show _ = _; rw [edgesC, hnt]
    have HNu := hid hnums
    have HB1 := hid hb1
    rcases nums_at hnums with ⟨rfl, rfl⟩ | ⟨g, cc, rfl, hg, hBg, hc1, hc2, hcell⟩
    · have HRt : Hid (EdgesR n b s R r w (.returned (.bool false)) w1) := edges_no (by rw [HEc.out, if_neg (by simp)]) (But.of hb1)
      clear hnt hb1 hnums
      go_wp2_with fail
      go_ret
      exact HRt.out
    · have HCe := hid hcell
      unfold maxLen at hc2
      have hms : ms.length ≤ 2 ^ 30 := by omega
      have hcn := (HX.out.below hb1).hn
      have HX1 := hid (HX.out.below hb1)
      have hb1s := hb1.size
      clear hnt hb1 hnums hcell htl
      by_cases c0 : 0 < ms.length
      · have d0 := HCe.out 0 c0
        have hx0 := HNu.out.2 (ms[0]?.getD 0) (by rw [List.getElem?_eq_getElem c0]; exact List.getElem_mem c0)
        obtain ⟨x0, hx0e⟩ : ∃ x0, x0 = ms[0]?.getD 0 := ⟨_, rfl⟩
        rw [← hx0e] at d0 hx0 HEc
        have c0' : ((ms.length : Int) == 0) = false := beq_eq_false_iff_ne.2 (by omega)
        have c0'' : (0 : Int) < (ms.length : Int) := by omega
        have hw1 : IntKind.i64.wrap (3 * (x0 : Int)) = 3 * (x0 : Int) := by rw [IntKind.wrap_i64]; omega
        have hw2 : IntKind.i64.wrap (1 + 3 * (x0 : Int)) = 1 + 3 * (x0 : Int) := by rw [IntKind.wrap_i64]; omega
        clear hx0e
        by_cases c1 : ms.length = 1 + 3 * x0
        · have c1' : ((ms.length : Int) != 1 + 3 * (x0 : Int)) = false := by simp; omega
          have HEc2 : Hid (edgesC n s = recF n (-1) (ms.drop 1)) := by show _ = _; rw [HEc.out, if_pos ⟨c0, c1⟩]
          have HC1 := hid c1
          clear HEc c1
          go_wp2_with fail
          refine (topLevel_any w1 n h1 h48).mono ?_
          rintro e w2 ⟨rfl, hw⟩
          replace hw := hw.symm
          subst hw
          generalize hL : Nat.log2 n = L at hl5 ⊢
          have HLe := hid hL
          clear hL
          have HStart : Hid (EdJ n b ms R r w1 w1 1 (-1) (-1) []) := ⟨RQ.start, Or.inl ⟨rfl, rfl⟩, by simp, by simp, ⟨F, HX1.out⟩, But.refl _ _⟩
          clear HX1 hcn d0
          go_wp2_with fail
          go_loopw [8, 9] (fun a q wr => ∃ (kk : Nat) (la z : Int) (es : List Edg), kk ≤ ms.length + 2 ∧ a = .int .i64 la ∧ q = .int .i64 kk ∧ Hid (EdJ n b ms R r w1 wr kk la z es) ∧ Hid (kk % 3 = 1)) (fun _ q _ => ms.length + 2 - (intOf q).toNat)
          case atStart => exact ⟨1, -1, -1, [], by omega, rfl, rfl, HStart, rfl⟩
          case round =>
            obtain ⟨kk, la, z, es, hkk, rfl, rfl, HJ, HM⟩ := hrel
            by_cases ck : kk + 2 < ms.length
            · have ck' : (kk : Int) + 2 < (ms.length : Int) := by omega
              have ck0 : (kk : Int) < (ms.length : Int) := by omega
              have ck1 : (kk : Int) + 1 < (ms.length : Int) := by omega
              have hw3 : IntKind.i64.wrap ((kk : Int) + 2) = (kk : Int) + 2 := by rw [IntKind.wrap_i64]; omega
              have hw4 : IntKind.i64.wrap ((kk : Int) + 1) = (kk : Int) + 1 := by rw [IntKind.wrap_i64]; omega
              have hgb : ¬ g = b := by omega
              have hce : ∀ j, j < ms.length → wr.cell? ⟨g, j, none⟩ = some (.int .i64 ((ms[j]?.getD 0 : Nat) : Int)) := fun j hj => by
                rw [World.cell?_of_block (w := w1) (a := ⟨g, j, none⟩) (HJ.out.bt.block g hg hgb)]
                exact HCe.out j hj
              have ya := hce kk (by omega)
              have yd := hce (kk + 1) (by omega)
              have yc := hce (kk + 2) ck
              have m28 : ∀ j, j < ms.length → ms[j]?.getD 0 ≤ 268435456 := fun j hj => by
                have := HNu.out.2 (ms[j]?.getD 0) (by rw [List.getElem?_eq_getElem hj]; exact List.getElem_mem hj)
                omega
              have ba := m28 kk (by omega)
              have bd := m28 (kk + 1) (by omega)
              have bc := m28 (kk + 2) ck
              clear hce m28
              generalize hae : ms[kk]?.getD 0 = a at ya ba
              generalize hde : ms[kk + 1]?.getD 0 = d at yd bd
              generalize hxe : ms[kk + 2]?.getD 0 = c at yc bc
              have HAe := hid hae
              have HDe := hid hde
              have HXe := hid hxe
              obtain ⟨Fx, hFx⟩ := HJ.out.ix
              have HFx := hid hFx
              have HFail : Hid (∀ w', Below wr.heap.size wr w' → (d ≤ a ∨ n ≤ d ∨ ((a * n + d : Nat) : Int) ≤ z ∨ Nat.log2 n < c / 2) → EdgesR n b s R r w (.returned (.bool false)) w') := fun w' hb q =>
                edges_no (by rw [HEc2.out]; exact HJ.out.rq.fail ck (by rw [hae, hde, hxe]; exact q)) (((But.of HB1.out).trans (S' := fun q => q = b) HJ.out.bt (fun _ _ q => q)).trans (S' := fun _ => False) (But.of hb) (fun _ _ q => q.elim))
              have hwa : IntKind.i64.wrap ((a : Int) * 48) = (a : Int) * 48 := by rw [IntKind.wrap_i64]; omega
              have hwd : IntKind.i64.wrap ((a : Int) * 48 + (d : Int)) = (a : Int) * 48 + d := by rw [IntKind.wrap_i64]; omega
              clear hae hde hxe hFx
              go_wp2_with fail
              refine (unmarked_any wr c (by omega)).mono ?_
              rintro e w3 ⟨rfl, hb3⟩
              have HB3 := hid hb3
              have HX3 := hid (HFx.out.below hb3)
              have hcn3 := HX3.out.hn
              have hcn4 := fun ob => (HX3.out.below ((Below.refl _ _).alloc (Nat.le_refl _) ob)).hn
              have HBa : Hid (∀ ob, Below wr.heap.size wr (w3.alloc ob)) := fun ob => HB3.out.trans (((Below.refl _ _).alloc (Nat.le_refl _) ob).mono HB3.out.size)
              have HNx : Hid (∀ (w4 : World) (F' : Nat → Value), a < d → d < n → ¬ ((a * n + d : Nat) : Int) ≤ z → c / 2 ≤ Nat.log2 n → IdxP w4 b n (updE (look es) a d (true, c % 2 == 1, ((c / 2 : Nat) : Int))) R r F' → But (fun q => q = b) wr w4 → EdJ n b ms R r w1 w4 (kk + 3) ((a : Int) * 48 + d) ((a * n + d : Nat) : Int) (es ++ [⟨(a : Int), (d : Int), ((c / 2 : Nat) : Int), c % 2 == 1⟩])) :=
                fun w4 F' q1 q2 q3 q4 q5 q6 => HJ.out.next ck HAe.out HDe.out HXe.out q1 q2 q3 q4 q5 q6
              have HLa := hid HJ.out.la
              have hcl : c / 2 ≤ 268435456 := by omega
              generalize c / 2 = cl at HFail HNx hcl ⊢
              generalize (c % 2 == 1) = tr at HNx ⊢
              clear hb3 HFx HJ
              by_cases c1 : d ≤ a
              · have c1' : (d : Int) ≤ (a : Int) := by omega
                go_wp2_with fail
                go_ret
                exact HFail.out _ (HBa.out _) (Or.inl c1)
              · have c1' : decide ((d : Int) ≤ (a : Int)) = false := decide_eq_false (by omega)
                by_cases c2 : n ≤ d
                · have c2' : (n : Int) ≤ (d : Int) := by omega
                  go_wp2_with fail
                  go_ret
                  exact HFail.out _ (HBa.out _) (Or.inr (Or.inl c2))
                · have c2' : decide ((n : Int) ≤ (d : Int)) = false := decide_eq_false (by omega)
                  by_cases c3 : L < cl
                  · have c3' : (L : Int) < (cl : Int) := by omega
                    go_wp2_with fail
                    go_ret
                    exact HFail.out _ (HBa.out _) (Or.inr (Or.inr (Or.inr (by rw [HLe.out]; exact c3))))
                  · have c3' : decide ((L : Int) < (cl : Int)) = false := decide_eq_false (by omega)
                    have HLl := hid (HLa.out.le h48 (a := a) (b := d) (by omega))
                    by_cases c4 : (a : Int) * 48 + d ≤ la
                    · have HCz := hid (HLl.out.1 c4)
                      clear HLl
                      go_wp2_with fail
                      go_ret
                      exact HFail.out _ (HBa.out _) (Or.inr (Or.inr (Or.inl HCz.out)))
                    · have HCz : Hid (¬ ((a * n + d : Nat) : Int) ≤ z) := fun q => c4 (HLl.out.2 q)
                      have c4' : decide ((a : Int) * 48 + d ≤ la) = false := decide_eq_false c4
                      clear HLl HFail
                      have ha48 : a < 48 := by omega
                      have hd48 : d < 48 := by omega
                      go_wp2_with fail
                      refine (setEdge_any _ b n (look es) R r Fx a d true tr cl (HX3.out.below ((Below.refl _ _).alloc (Nat.le_refl _) _)) ha48 hd48).mono ?_
                      rintro e w4 ⟨rfl, ⟨F4, hF4⟩, hb4⟩
                      have HJ4 := hid (HNx.out w4 F4 (by omega) (by omega) HCz.out (by rw [HLe.out]; omega) hF4 ((But.of (HBa.out _)).same hb4))
                      clear hF4 hb4 HNx hcn4
                      generalize es ++ [(⟨(a : Int), (d : Int), ((cl : Nat) : Int), tr⟩ : Edg)] = es2 at HJ4
                      generalize ((a * n + d : Nat) : Int) = z2 at HJ4
                      have HM3 : Hid ((kk + 3) % 3 = 1) := by show _ = _; have := HM.out; omega
                      go_wp2
                      exact ⟨⟨kk + 3, (a : Int) * 48 + d, z2, es2, by omega, rfl, by go_num, HJ4, HM3⟩, by simp [intOf]; omega⟩
            · have ck' : ¬ (kk : Int) + 2 < (ms.length : Int) := by omega
              have hw3 : IntKind.i64.wrap ((kk : Int) + 2) = (kk : Int) + 2 := by rw [IntKind.wrap_i64]; omega
              have HRt : Hid (EdgesR n b s R r w (.returned (.bool true)) wr) := by
                have he := HJ.out.rq.end_ (by have := HM.out; have := HC1.out; omega)
                rw [← HEc2.out] at he
                refine ⟨by rw [he]; rfl, (But.of HB1.out).trans (S' := fun q => q = b) HJ.out.bt (fun _ _ q => q), fun es' q => ?_⟩
                rw [he] at q
                injection q with q
                subst q
                exact HJ.out.ix
              clear HJ
              go_wp2_with fail
              go_ret
              exact HRt.out
        · have c1' : ((ms.length : Int) != 1 + 3 * (x0 : Int)) = true := by simp; omega
          have HRt : Hid (EdgesR n b s R r w (.returned (.bool false)) w1) := edges_no (by rw [HEc.out, if_neg (fun q => c1 q.2)]) (But.of HB1.out)
          clear HEc
          go_wp2_with fail
          go_ret
          exact HRt.out
      · have HRt : Hid (EdgesR n b s R r w (.returned (.bool false)) w1) := edges_no (by rw [HEc.out, if_neg (fun q => c0 q.1)]) (But.of HB1.out)
        have c0' : ((ms.length : Int) == 0) = true := beq_iff_eq.2 (by omega)
        clear HEc
        go_wp2_with fail
        go_ret
        exact HRt.out

end Go.Proofs.YtckallochdegiaaGreat
namespace Go.Proofs.YtckallochdegiaaGreat
set_option linter.unusedVariables false
set_option linter.unusedSimpArgs false
open Go.RowKit

section
variable {n i : Nat} {es : List Edg} {ts : List (List Itm)} {R : Nat → List Itm}

theorem LT.okI (L : LT n es i ts) (E : EdOK n es) (hN : n ≤ 48) {t : List Itm} (ht : t ∈ ts) : ∀ x, x ∈ t → OkI x := (L.li0 E).ok hN (fun e he => by have := E.ed e he; omega) ht

theorem fr_len (L : LT n es i ts) (C : Cov es i ts) (E : EdOK n es) (hN : n ≤ 48) (f : FR R ts) {v : Nat} (hv : v < n) {t : List Itm} (ht : t ∈ ts) (hl : LeastAt t v) : (vtxs (R v)).length = (compV n es i v).length := by
  rw [f.at_ t ht v hl, vtxs_pvs (fun x hx => L.okI E hN ht x ((fromX_mem _ _ _).1 hx))]
  exact (L.walk E C ht hv hl.1).size E
theorem trees_iff (L : LT n es i ts) (C : Cov es i ts) (E : EdOK n es) (hN : n ≤ 48) (f : FR R ts) (m : Nat) : (∀ v, v < n → (vtxs (R v)).length ≤ m) ↔ ∀ v, v < n → (compV n es i v).length ≤ m := by
  constructor
  · intro h v hv
    obtain ⟨z, z1, z2, z3⟩ := lst_ex (N := n) (es := es) (i := i) v hv
    obtain ⟨t, ht, hm⟩ := L.all (z : Int) (by omega) (by omega)
    have := h z z1
    rw [fr_len L C E hN f z1 ht ((L.least E C ht z1 hm).1 z2)] at this
    have e : compV n es i v = compV n es i z := by
      rw [compV, compV]
      congr 1
      funext u
      exact (inI_eq z3 u).symm
    rw [e]; exact this
  · intro h v hv
    by_cases c : R v = []
    · rw [c]; simp [vtxs]
    · obtain ⟨t, ht, hl⟩ := f.no v (by omega) c
      rw [fr_len L C E hN f hv ht hl]
      exact h v hv
theorem hold_at (L : LT n es i ts) (E : EdOK n es) (hN : n ≤ 48) (f : FR R ts) {u : Nat} (hu : u < n) : ∃ (t : List Itm) (z : Nat), t ∈ ts ∧ ((u : Int), (-1 : Int)) ∈ t ∧ LeastAt t z ∧ z < n ∧ holdX R (u, u) = z := by
  have L0 := L.li0 E
  obtain ⟨t, ht, hm⟩ := L.all (u : Int) (by omega) (by omega)
  obtain ⟨z, z1, z2⟩ := L0.least hN ht
  have := f.hold L0 (fun t ht => L.okI E hN ht) ht hm z2
  rw [pv_vtx] at this
  exact ⟨t, z, ht, hm, z2, z1, holdX_some (by omega) this.1 (fun y hy => this.2 y (by omega) (by omega))⟩
theorem hold_iff (L : LT n es i ts) (C : Cov es i ts) (E : EdOK n es) (hN : n ≤ 48) (f : FR R ts) {u v : Nat} (hu : u < n) (hv : v < n) : holdX R (u, u) = holdX R (v, v) ↔ inI es i u v = true := by
  have L0 := L.li0 E
  obtain ⟨tu, zu, u1, u2, u3, u4, u5⟩ := hold_at L E hN f hu
  obtain ⟨tv, zv, v1, v2, v3, v4, v5⟩ := hold_at L E hN f hv
  rw [u5, v5, L.conn E C (by omega) (by omega) (by omega) (by omega)]
  constructor
  · intro q
    have q : zu = zv := by omega
    subst q
    have := L0.uniq u1 v1 u3.1 v3.1 rfl
    subst this
    exact ⟨tu, u1, u2, v2⟩
  · rintro ⟨t, t1, t2, t3⟩
    have e1 := L0.uniq u1 t1 u2 t2 rfl
    have e2 := L0.uniq v1 t1 v2 t3 rfl
    rw [e1] at u3
    rw [e2] at v3
    exact u3.uniq v3

theorem look_mem (E : EdOK n es) {e : Edg} (he : e ∈ es) : look es e.u.toNat e.v.toNat = (true, e.tree, e.lev) := by
  have be := E.ed e he
  obtain ⟨k, hk, ek⟩ := List.mem_iff_getElem.1 he
  have m : min ((e.u.toNat : Nat) : Int) e.v.toNat = e.u ∧ max ((e.u.toNat : Nat) : Int) e.v.toNat = e.v := by omega
  have f := find_key E.nd hk (a := e.u) (b := e.v) (by rw [get_eq hk, ek]; rfl)
  rw [look_at (k := k) (by rw [m.1, m.2]; exact f), get_eq hk, ek]
theorem look_of (E : EdOK n es) {u v : Nat} (huv : u < v) (h : (look es u v).1 = true) : ∃ e, e ∈ es ∧ e.u = u ∧ e.v = v ∧ look es u v = (true, e.tree, e.lev) := by
  rcases findIx_has es (min (u : Int) v) (max (u : Int) v) with ⟨q, _⟩ | ⟨k, q, k1, _, k2⟩
  · rw [look_no q] at h; simp at h
  · rw [key] at k2
    injection k2 with k2 k3
    refine ⟨es[k]?.getD e0, by rw [get_eq k1]; exact List.getElem_mem k1, by omega, by omega, look_at q⟩
end

/-- What stands beside the forest is in one tree. -/
def BsP (E : Nat → Nat → E3) (R : Nat → Nat → List Itm) (u v : Nat) : Prop := (E u v).1 = true → (E u v).2.1 = false → holdX (R (E u v).2.2.toNat) (u, u) = holdX (R (E u v).2.2.toNat) (v, v)
def BsA (n : Nat) (E : Nat → Nat → E3) (R : Nat → Nat → List Itm) : Prop := ∀ u v, u < v → v < n → BsP E R u v
def BsJ (n : Nat) (E : Nat → Nat → E3) (R : Nat → Nat → List Itm) (a c : Nat) : Prop := ∀ u v, u < v → v < n → (u < a ∨ (u = a ∧ v < c)) → BsP E R u v

theorem levelF_rd {n : Nat} {es : List Edg} {T : List (List (List Itm))} {R : Nat → Nat → List Itm} (E : EdOK n es) (hlev : ∀ e, e ∈ es → e.lev ≤ Nat.log2 n) (hN : n ≤ 48) (hl : T.length = Nat.log2 n + 1) (hT : Trs n es 0 T) (hS : Sim ⟨n, es, T⟩ R) :
    levelF n es = true ↔ (∀ k, k ≤ Nat.log2 n → ∀ v, v < n → (vtxs (R k v)).length ≤ n / 2 ^ k) ∧ BsA n (look es) R := by
  have at_ : ∀ k, k ≤ Nat.log2 n → LT n es k (T[k]?.getD []) ∧ Cov es k (T[k]?.getD []) ∧ FR (R k) (T[k]?.getD []) := fun k hk => by
    have := hT.at_ k (by omega)
    rw [Nat.zero_add] at this
    obtain ⟨a, b, _⟩ := this.lt E
    exact ⟨a, b, hS.fr k hk⟩
  simp only [levelF, Bool.and_eq_true, List.all_eq_true, List.mem_range, decide_eq_true_eq]
  refine and_congr ?_ ?_
  · constructor
    · intro h k hk
      obtain ⟨a, b, c⟩ := at_ k hk
      refine (trees_iff a b E hN c _).2 (fun v hv => ?_)
      rw [Nat.le_div_iff_mul_le (Nat.two_pow_pos k)]
      exact h k (by omega) v hv
    · intro h k hk v hv
      obtain ⟨a, b, c⟩ := at_ k (by omega)
      have := (trees_iff a b E hN c _).1 (h k (by omega)) v hv
      rwa [Nat.le_div_iff_mul_le (Nat.two_pow_pos k)] at this
  · constructor
    · intro h u v huv hv h1 h2
      obtain ⟨e, he, eu, ev, el⟩ := look_of E huv h1
      rw [el] at h2 ⊢
      simp only at h2 ⊢
      have be := E.ed e he
      have bl := hlev e he
      have := h e he
      rw [h2, Bool.false_or, eu, ev] at this
      obtain ⟨a, b, c⟩ := at_ e.lev.toNat (by omega)
      exact (hold_iff a b E hN c (by omega) hv).2 this
    · intro h e he
      cases ht : e.tree
      · have be := E.ed e he
        have bl := hlev e he
        have lk := look_mem E he
        have := h e.u.toNat e.v.toNat (by omega) (by omega) (by rw [lk]) (by rw [lk]; exact ht)
        rw [lk] at this
        simp only at this
        obtain ⟨a, b, c⟩ := at_ e.lev.toNat (by omega)
        have := (hold_iff a b E hN c (by omega) (by omega)).1 this
        rw [Int.toNat_of_nonneg be.1, Int.toNat_of_nonneg (by omega)] at this
        rw [Bool.false_or]; exact this
      · rfl

set_option maxRecDepth 100000 in
set_option maxHeartbeats 2000000 in
theorem Vertices_nil (w : World) : Calls Tryz.prog 102 #[.slice none 0 0] w fun e w' => ∃ val, e = .returned val ∧ NumsAt w' w.heap.size val [] ∧ Below w.heap.size w w' := by
  have HN := hid (numsAt_nil w)
  have HB : Hid (Below w.heap.size w (w.alloc (.cells #[] 3))) := (Below.refl _ _).alloc (Nat.le_refl _) _
  go_enter Tryz.func102, Tryz.ntmps102
  go_wp2_with fail
  go_loopw [3, 9] (fun a c wr => c = .int .i64 0 ∧ a = .slice (some ⟨w.heap.size, 0, none⟩) 0 0 ∧ wr = w.alloc (.cells #[] 3)) (fun _ _ _ => 0)
  case atStart => exact ⟨rfl, rfl, rfl⟩
  case round =>
    obtain ⟨rfl, rfl, hw⟩ := hrel
    subst hw
    go_wp2
    go_ret
    exact ⟨_, rfl, HN.out, HB.out⟩

/-- What treesHold answers. -/
def TrsR (n : Nat) (R : Nat → List Itm) (m : Nat) (w : World) (e : Ending) (w' : World) : Prop := ∃ c : Bool, e = .returned (.bool c) ∧ (c = true ↔ ∀ v, v < n → (vtxs (R v)).length ≤ m) ∧ Below w.heap.size w w'

set_option maxRecDepth 100000 in
set_option maxHeartbeats 4000000 in
theorem treesHold_any (w : World) (b n : Nat) (E : Nat → Nat → E3) (R : Nat → Nat → List Itm) (r : Int) (F : Nat → Value) (k m : Nat) (h : IdxP w b n E R r F) (hk : k < 6) (hm : m ≤ 48) (hok : ∀ v, v < 48 → (R k v).length ≤ 3000 ∧ ∀ x, x ∈ R k v → 0 ≤ x.1 ∧ x.1 < 48) :
    Calls Tryz.prog 86 #[ptr b, .int .i64 k, .int .i64 m] w (TrsR n (R k) m w) := by
  have HX := hid h
  have h48 := h.n1
  have HOk := hid hok
  have hk6 : (k : Int) < 6 := by omega
  clear h hok
  go_enter Tryz.func86, Tryz.ntmps86
  go_wp2_with fail
  go_loopw [7] (fun q wr => ∃ v : Nat, v ≤ n ∧ q = .int .i64 v ∧ Hid (∀ u, u < v → (vtxs (R k u)).length ≤ m) ∧ Hid (Below w.heap.size w wr)) (fun q _ => n - (intOf q).toNat)
  case atStart => exact ⟨0, by omega, rfl, fun u hu => by omega, Below.refl _ _⟩
  case round =>
    obtain ⟨v, hv, rfl, HJ, HB⟩ := hrel
    have HX1 := hid (HX.out.below HB.out)
    have cn := HX1.out.hn
    by_cases cv : v < n
    · have cv' : (v : Int) < (n : Int) := by omega
      go_wp2_with fail
      refine (RoundFrom_fany wr b (6913 + k * 48) F (R k) v (HX1.out.fo (k := k) hk) (by omega)).mono ?_
      rintro e w2 ⟨rfl, hw⟩
      replace hw := hw.symm
      subst hw
      have hval : Calls Tryz.prog 102 #[F (6913 + k * 48 + v)] wr fun e w' => ∃ val, e = .returned val ∧ NumsAt w' wr.heap.size val (vtxs (R k v)) ∧ Below wr.heap.size wr w' := by
        rcases HX1.out.it k v hk (by omega) with ⟨e1, e2⟩ | ⟨b1, o1, c1, hp⟩
        · rw [e1, e2]; exact Vertices_nil wr
        · have hpv := hp.hv
          rw [hpv]
          rw [hpv] at hp
          exact Vertices_any wr b1 o1 c1 (R k v) hp (HOk.out v (by omega)).1 (HOk.out v (by omega)).2
      have HVl := hid hval
      clear hval
      generalize F (6913 + k * 48 + v) = fv at HVl ⊢
      go_wp2_with fail
      refine HVl.out.mono ?_
      rintro e w3 ⟨val, rfl, hn, hb3⟩
      have HB3 : Hid (Below w.heap.size w w3) := HB.out.trans (hb3.mono HB.out.size)
      obtain ⟨pp, cc, rfl⟩ : ∃ pp cc, val = .slice pp (vtxs (R k v)).length cc := by
        rcases nums_at hn with ⟨q, e⟩ | ⟨g, c, q, _⟩
        · rw [e]; exact ⟨none, 0, q⟩
        · exact ⟨_, _, q⟩
      have hl3 : (vtxs (R k v)).length ≤ 3000 := Nat.le_trans (vtxs_le _) (HOk.out v (by omega)).1
      have HNx : Hid ((vtxs (R k v)).length ≤ m → ∀ u, u < v + 1 → (vtxs (R k u)).length ≤ m) := fun q u hu => by
        by_cases c : u = v
        · subst c; exact q
        · exact HJ.out u (by omega)
      have HNo : Hid (m < (vtxs (R k v)).length → TrsR n (R k) m w (.returned (.bool false)) w3) := fun q => ⟨false, rfl, ⟨fun z => by simp at z, fun z => by have := z v cv; omega⟩, HB3.out⟩
      clear hn hb3 HJ HVl
      generalize (vtxs (R k v)).length = L at hl3 HNx HNo ⊢
      by_cases cL : m < L
      · have cL' : (m : Int) < (L : Int) := by omega
        have HRt := hid (HNo.out cL)
        clear HNo HNx
        go_wp2_with fail
        go_ret
        exact HRt.out
      · have cL' : ¬ (m : Int) < (L : Int) := by omega
        have HJ2 := hid (HNx.out (by omega))
        clear HNo HNx
        go_wp2
        exact ⟨⟨v + 1, by omega, by go_num, HJ2, HB3⟩, by simp [intOf]; omega⟩
    · have cv' : ¬ (v : Int) < (n : Int) := by omega
      have HRt : Hid (TrsR n (R k) m w (.returned (.bool true)) wr) := ⟨true, rfl, ⟨fun _ u hu => HJ.out u (by omega), fun _ => rfl⟩, HB.out⟩
      clear HJ
      go_wp2_with fail
      go_ret
      exact HRt.out

end Go.Proofs.YtckallochdegiaaGreat
namespace Go.Proofs.YtckallochdegiaaGreat
set_option linter.unusedVariables false
set_option linter.unusedSimpArgs false
open Go.RowKit

/-- What besideHold answers. -/
def BsR (n : Nat) (E : Nat → Nat → E3) (R : Nat → Nat → List Itm) (w : World) (e : Ending) (w' : World) : Prop := ∃ c : Bool, e = .returned (.bool c) ∧ (c = true ↔ BsA n E R) ∧ Below w.heap.size w w'

set_option maxRecDepth 100000 in
set_option maxHeartbeats 4000000 in
theorem besideHold_any (w : World) (b n : Nat) (E : Nat → Nat → E3) (R : Nat → Nat → List Itm) (r : Int) (F : Nat → Value) (h : IdxP w b n E R r F) (hlev : ∀ u v, u < n → v < n → (E u v).1 = true → 0 ≤ (E u v).2.2 ∧ (E u v).2.2 < 6) :
    Calls Tryz.prog 87 #[ptr b] w (BsR n E R w) := by
  have HX := hid h
  have h48 := h.n1
  have HLv := hid hlev
  clear h hlev
  go_enter Tryz.func87, Tryz.ntmps87
  go_wp2_with fail
  go_loopw [3] (fun q wr => ∃ u : Nat, u ≤ n ∧ q = .int .i64 u ∧ Hid (BsJ n E R u 0) ∧ Hid (Below w.heap.size w wr)) (fun q _ => n - (intOf q).toNat)
  case atStart => exact ⟨0, by omega, rfl, fun u v h1 h2 q => by omega, Below.refl _ _⟩
  case round =>
    obtain ⟨u, hu, rfl, HJ, HB⟩ := hrel
    have cn := (HX.out.below HB.out).hn
    by_cases cu : u < n
    · have cu' : (u : Int) < (n : Int) := by omega
      go_wp2_with fail
      go_loopw [4] (fun q wr2 => ∃ v : Nat, u + 1 ≤ v ∧ v ≤ n ∧ q = .int .i64 v ∧ Hid (BsJ n E R u v) ∧ Hid (Below w.heap.size w wr2)) (fun q _ => n - (intOf q).toNat)
      case atStart => exact ⟨u + 1, by omega, by omega, by go_num, fun x y h1 h2 q => HJ.out x y h1 h2 (by omega), HB⟩
      case round =>
        obtain ⟨v, hv0, hv, rfl, HJ2, HB2⟩ := hrel
        clear cn
        have HX2 := hid (HX.out.below HB2.out)
        have cn := HX2.out.hn
        by_cases cv : v < n
        · have cv' : (v : Int) < (n : Int) := by omega
          have hu48 : (u : Int) < 48 := by omega
          have hv48 : (v : Int) < 48 := by omega
          have c0 := HX2.out.c0 u v (by omega) (by omega)
          have c1 := HX2.out.c1 u v (by omega) (by omega)
          have c2 := HX2.out.c2 u v (by omega) (by omega)
          have HNx : Hid (BsP E R u v → BsJ n E R u (v + 1)) := fun q x y h1 h2 z => by
            by_cases k : x = u ∧ y = v
            · obtain ⟨rfl, rfl⟩ := k; exact q
            · exact HJ2.out x y h1 h2 (by omega)
          have HNo : Hid (¬ BsP E R u v → ∀ w', Below wr.heap.size wr w' → BsR n E R w (.returned (.bool false)) w') := fun q w' hb => ⟨false, rfl, ⟨fun z => by simp at z, fun z => absurd (z u v (by omega) cv) q⟩, HB2.out.trans (hb.mono HB2.out.size)⟩
          have HBs : Hid (BsP E R u v ↔ ((E u v).1 = true → (E u v).2.1 = false → holdX (R (E u v).2.2.toNat) (u, u) = holdX (R (E u v).2.2.toNat) (v, v))) := Iff.rfl
          have hle := HLv.out u v cu cv
          have HBa : Hid (∀ ob, Below w.heap.size w (wr.alloc ob)) := fun ob => HB2.out.alloc HB2.out.size ob
          clear HJ2 HJ
          generalize E u v = ee at c0 c1 c2 HBs hle
          obtain ⟨e1, e2, e3⟩ := ee
          simp only at c0 c1 c2 HBs hle
          cases e1
          · have HJ3 := hid (HNx.out (HBs.out.2 (fun q => by simp at q)))
            clear HNx HNo HBs
            go_wp2
            exact ⟨⟨v + 1, by omega, by omega, by go_num, HJ3, HBa.out _⟩, by simp [intOf]; omega⟩
          · cases e2
            · obtain ⟨l0, l6⟩ := hle rfl
              obtain ⟨l, rfl⟩ : ∃ l : Nat, e3 = l := ⟨e3.toNat, by omega⟩
              rw [Int.toNat_natCast] at HBs
              have HBs2 : Hid (BsP E R u v ↔ holdX (R l) (u, u) = holdX (R l) (v, v)) := HBs.out.trans ⟨fun q => q rfl rfl, fun q _ _ => q⟩
              clear HBs
              have HBb : Hid (∀ ob, Below wr.heap.size wr (wr.alloc ob)) := fun ob => (Below.refl _ _).alloc (Nat.le_refl _) ob
              go_wp2_with fail
              refine (joined_at _ b n E R r F u v l (HX2.out.below (HBb.out _)) (by omega)).mono ?_
              rintro e w3 ⟨rfl, hb3⟩
              have HB3 : Hid (Below wr.heap.size wr w3) := (HBb.out _).trans (hb3.mono (HBb.out _).size)
              have HB4 : Hid (Below w.heap.size w w3) := HB2.out.trans (HB3.out.mono HB2.out.size)
              obtain ⟨bw, hbw⟩ : ∃ bw, bw = (holdX (R l) (u, u) == holdX (R l) (v, v)) := ⟨_, rfl⟩
              rw [← hbw]
              have HBw : Hid (bw = true ↔ BsP E R u v) := by
                show _ ↔ _
                rw [HBs2.out, hbw, beq_iff_eq]
              clear hb3 hbw HBs2
              cases bw
              · have HRt := hid (HNo.out (fun q => by have := HBw.out.2 q; simp at this) w3 HB3.out)
                clear HNx HNo HBw
                go_wp2_with fail
                go_ret
                exact HRt.out
              · have HJ3 := hid (HNx.out (HBw.out.1 rfl))
                clear HNx HNo HBw
                go_wp2
                exact ⟨⟨v + 1, by omega, by omega, by go_num, HJ3, HB4⟩, by simp [intOf]; omega⟩
            · have HJ3 := hid (HNx.out (HBs.out.2 (fun _ q => by simp at q)))
              clear HNx HNo HBs
              go_wp2
              exact ⟨⟨v + 1, by omega, by omega, by go_num, HJ3, HBa.out _⟩, by simp [intOf]; omega⟩
        · have HJ3 : Hid (BsJ n E R (u + 1) 0) := fun x y h1 h2 q => HJ2.out x y h1 h2 (by omega)
          have cv' : ¬ (v : Int) < (n : Int) := by omega
          go_wp2
          exact ⟨⟨u + 1, by omega, by go_num, HJ3, HB2⟩, by simp [intOf]; omega⟩
    · have cu' : ¬ (u : Int) < (n : Int) := by omega
      have HRt : Hid (BsR n E R w (.returned (.bool true)) wr) := ⟨true, rfl, ⟨fun _ x y h1 h2 => HJ.out x y h1 h2 (by omega), fun _ => rfl⟩, HB.out⟩
      clear HJ
      go_wp2_with fail
      go_ret
      exact HRt.out

/-- What levelsHold answers. -/
def LvsR (n : Nat) (E : Nat → Nat → E3) (R : Nat → Nat → List Itm) (w : World) (e : Ending) (w' : World) : Prop := ∃ c : Bool, e = .returned (.bool c) ∧ (c = true ↔ (∀ k, k ≤ Nat.log2 n → ∀ v, v < n → (vtxs (R k v)).length ≤ n / 2 ^ k) ∧ BsA n E R) ∧ Below w.heap.size w w'

set_option maxRecDepth 100000 in
set_option maxHeartbeats 4000000 in
theorem levelsHold_any (w : World) (b n : Nat) (E : Nat → Nat → E3) (R : Nat → Nat → List Itm) (r : Int) (F : Nat → Value) (h : IdxP w b n E R r F) (hlev : ∀ u v, u < n → v < n → (E u v).1 = true → 0 ≤ (E u v).2.2 ∧ (E u v).2.2 < 6) (hok : ∀ k v, k < 6 → v < 48 → (R k v).length ≤ 3000 ∧ ∀ x, x ∈ R k v → 0 ≤ x.1 ∧ x.1 < 48) :
    Calls Tryz.prog 52 #[ptr b] w (LvsR n E R w) := by
  have HX := hid h
  have h1 := h.n0
  have h48 := h.n1
  have hl5 := log2_le5 h1 h48
  have HLv := hid hlev
  have HOk := hid hok
  have cn := h.hn
  clear h hlev hok
  go_enter Tryz.func52, Tryz.ntmps52
  go_wp2_with fail
  refine (topLevel_any w n h1 h48).mono ?_
  rintro e w2 ⟨rfl, hw⟩
  replace hw := hw.symm
  subst hw
  generalize hL : Nat.log2 n = L at hl5 ⊢
  have HLe := hid hL
  clear hL
  go_wp2_with fail
  go_loopw [4, 5] (fun a q wr => ∃ (k m : Nat), k ≤ L + 1 ∧ m ≤ 48 ∧ a = .int .i64 m ∧ q = .int .i64 k ∧ Hid (m = n / 2 ^ k) ∧ Hid (∀ j, j < k → ∀ v, v < n → (vtxs (R j v)).length ≤ n / 2 ^ j) ∧ Hid (Below w.heap.size w wr)) (fun _ q _ => L + 1 - (intOf q).toNat)
  case atStart => exact ⟨0, n, by omega, h48, rfl, rfl, by show _ = _; simp, fun j hj => by omega, Below.refl _ _⟩
  case round =>
    obtain ⟨k, m, hk, hm, rfl, rfl, HM, HJ, HB⟩ := hrel
    have HX1 := hid (HX.out.below HB.out)
    by_cases ck : k ≤ L
    · have ck' : (k : Int) ≤ (L : Int) := by omega
      go_wp2_with fail
      refine (treesHold_any wr b n E R r F k m HX1.out (by omega) hm (fun v hv => HOk.out k v (by omega) hv)).mono ?_
      rintro e w3 ⟨c, rfl, hc, hb3⟩
      have HB3 : Hid (Below w.heap.size w w3) := HB.out.trans (hb3.mono HB.out.size)
      cases c
      · have HRt : Hid (LvsR n E R w (.returned (.bool false)) w3) := ⟨false, rfl, ⟨fun z => by simp at z, fun z => by
          have := hc.2 (fun v hv => by rw [HM.out]; exact z.1 k (by rw [HLe.out]; exact ck) v hv)
          simp at this⟩, HB3.out⟩
        clear hc hb3 HJ
        go_wp2_with fail
        go_ret
        exact HRt.out
      · have HJ2 : Hid (∀ j, j < k + 1 → ∀ v, v < n → (vtxs (R j v)).length ≤ n / 2 ^ j) := fun j hj v hv => by
          by_cases q : j = k
          · subst q; rw [← HM.out]; exact hc.1 rfl v hv
          · exact HJ.out j (by omega) v hv
        have HM2 : Hid (m / 2 = n / 2 ^ (k + 1)) := by show _ = _; rw [HM.out, Nat.div_div_eq_div_mul, Nat.pow_succ]
        have hq : (m : Int).tdiv 2 = ((m / 2 : Nat) : Int) := by rw [Int.tdiv_eq_ediv_of_nonneg (by omega)]; omega
        have hm2 : m / 2 ≤ 48 := by omega
        generalize m / 2 = m2 at HM2 hq hm2
        have hwq : IntKind.i64.wrap (m2 : Int) = m2 := by rw [IntKind.wrap_i64]; omega
        clear hc hb3 HJ HM
        go_wp2
        exact ⟨⟨k + 1, m2, by omega, hm2, by first | rfl | (congr 1; omega), by go_num, HM2, HJ2, HB3⟩, by simp [intOf]; omega⟩
    · have ck' : ¬ (k : Int) ≤ (L : Int) := by omega
      have HJ2 : Hid (∀ j, j ≤ Nat.log2 n → ∀ v, v < n → (vtxs (R j v)).length ≤ n / 2 ^ j) := fun j hj v hv => HJ.out j (by rw [HLe.out] at hj; omega) v hv
      clear HJ HM
      go_wp2_with fail
      refine (besideHold_any wr b n E R r F HX1.out HLv.out).mono ?_
      rintro e w3 ⟨c, rfl, hc, hb3⟩
      have HRt : Hid (LvsR n E R w (.returned (.bool c)) w3) := ⟨c, rfl, hc.trans ⟨fun q => ⟨HJ2.out, q⟩, fun q => q.2⟩, HB.out.trans (hb3.mono HB.out.size)⟩
      clear hc hb3
      go_wp2_with fail
      go_ret
      exact HRt.out

end Go.Proofs.YtckallochdegiaaGreat
namespace Go.Proofs.YtckallochdegiaaGreat
set_option linter.unusedVariables false
set_option linter.unusedSimpArgs false
open Go.RowKit

section
variable {s a b c : ByteArray} {n : Nat} {es : List Edg}
theorem ld5 (h : 32768 < s.size) : readF s = (5, none) := by rw [readF, if_pos h]
theorem ld6 (h : ¬ 32768 < s.size) (k : ¬ (4 ≤ s.size ∧ s.extract 0 4 = ⟨#[72, 68, 84, 49]⟩)) : readF s = (6, none) := by rw [readF, if_neg h, if_pos k]
theorem ld7 (h : ¬ 32768 < s.size) (k : 4 ≤ s.size ∧ s.extract 0 4 = ⟨#[72, 68, 84, 49]⟩) (p : partsF (s.extract 4 s.size) = none) : readF s = (7, none) := by
  rw [readF, if_neg h, if_neg (fun q => q k), p]
theorem ld8v (h : ¬ 32768 < s.size) (k : 4 ≤ s.size ∧ s.extract 0 4 = ⟨#[72, 68, 84, 49]⟩) (p : partsF (s.extract 4 s.size) = some [a, b, c]) (q : ∀ ns, numbersF a = some ns → ¬ (ns.length = 1 ∧ 1 ≤ ns[0]?.getD 0 ∧ ns[0]?.getD 0 ≤ 48)) : readF s = (8, none) := by
  rw [readF, if_neg h, if_neg (fun q => q k), p]
  simp only [List.getElem?_cons_zero, List.getElem?_cons_succ, Option.getD_some]
  cases hn : numbersF a with
  | none => rfl
  | some ns =>
    cases hm : numbersF b with
    | none => rfl
    | some ms =>
      simp only
      rw [if_neg (fun z => q ns hn ⟨z.1, z.2.1, z.2.2.1⟩)]
theorem ld_n (h : ¬ 32768 < s.size) (k : 4 ≤ s.size ∧ s.extract 0 4 = ⟨#[72, 68, 84, 49]⟩) (p : partsF (s.extract 4 s.size) = some [a, b, c]) (q : numbersF a = some [n]) (h1 : 1 ≤ n) (h2 : n ≤ 48) :
    readF s = match edgesC n b with | none => (8, none) | some es => (match toursC n es c with | none => (9, none) | some T => if levelF n es = true then (0, some ⟨n, es, T⟩) else (10, none)) := by
  rw [readF, if_neg h, if_neg (fun q => q k), p]
  simp only [List.getElem?_cons_zero, List.getElem?_cons_succ, Option.getD_some, q, List.length_cons, List.length_nil]
  cases hm : numbersF b with
  | none => rw [edgesC, hm]
  | some ms =>
    simp only [List.getElem?_cons_zero, Option.getD_some]
    rw [edgesC, hm]
    simp only
    by_cases c1 : 0 < ms.length ∧ ms.length = 1 + 3 * ms[0]?.getD 0
    · rw [if_pos ⟨rfl, h1, h2, c1.1, c1.2⟩, if_pos c1]
      cases recF n (-1) (ms.drop 1) with
      | none => rfl
      | some es =>
        simp only
        rw [toursC]
        cases numbersF c with
        | none => rfl
        | some t =>
          simp only
          cases toursF n es t with
          | none => rfl
          | some T => rfl
    · rw [if_neg (fun z => c1 ⟨z.2.2.2.1, z.2.2.2.2⟩), if_neg c1]
theorem edgesC_ok (h : edgesC n b = some es) : EdOK n es ∧ ∀ e, e ∈ es → e.lev ≤ Nat.log2 n := by
  rw [edgesC] at h
  cases hm : numbersF b with
  | none => rw [hm] at h; simp at h
  | some ms =>
    rw [hm] at h
    simp only at h
    split at h
    · obtain ⟨_, r2, r3, _⟩ := recF_ok _ _ _ h
      exact ⟨⟨fun e he => by have := r2 e he; omega, ris_nodup r3⟩, fun e he => (r2 e he).2.2.2.2⟩
    · simp at h
theorem toursC_ok (E : EdOK n es) {T : List (List (List Itm))} (h : toursC n es c = some T) : T.length = Nat.log2 n + 1 ∧ Trs n es 0 T := by
  rw [toursC] at h
  cases hm : numbersF c with
  | none => rw [hm] at h; simp at h
  | some t =>
    rw [hm] at h
    simp only at h
    have := toursF_ok E h
    exact ⟨this.1, this.2.1⟩
end

theorem load_no {s : ByteArray} {w w' : World} {k : Nat} (h : readF s = (k, none)) (hb : Below w.heap.size w w') : LoadR s w (.returned (.tuple #[.pointer none, .int .i64 (k : Int)])) w' :=
  ⟨none, by rw [h], hb, fun _ => rfl, fun G q => by rw [h] at q; simp at q⟩

theorem mag_list {s : ByteArray} : ((!s.toList == [72, 68, 84, 49]) = false) ↔ s = ⟨#[72, 68, 84, 49]⟩ := by
  have e : (⟨#[72, 68, 84, 49]⟩ : ByteArray).toList = [72, 68, 84, 49] := by rw [ByteArray.toList_eq]
  rw [← toL_iff, e]
  simp

/-- What the check of levels asks of what was read. -/
theorem ld_ok {n : Nat} {es : List Edg} {T : List (List (List Itm))} {R : Nat → Nat → List Itm} (E : EdOK n es) (hlev : ∀ e, e ∈ es → e.lev ≤ Nat.log2 n) (h1 : 1 ≤ n) (hN : n ≤ 48) (hl : T.length = Nat.log2 n + 1) (hT : Trs n es 0 T) (hS : Sim ⟨n, es, T⟩ R) :
    (∀ u v, u < n → v < n → (look es u v).1 = true → 0 ≤ (look es u v).2.2 ∧ (look es u v).2.2 < 6) ∧ ∀ k v, k < 6 → v < 48 → (R k v).length ≤ 3000 ∧ ∀ x, x ∈ R k v → 0 ≤ x.1 ∧ x.1 < 48 := by
  have hl5 := log2_le5 h1 hN
  refine ⟨fun u v hu hv h => ?_, fun k v hk hv => ?_⟩
  · rcases findIx_has es (min (u : Int) v) (max (u : Int) v) with ⟨q, _⟩ | ⟨k, q, k1, _, _⟩
    · rw [look_no q] at h; simp at h
    · rw [look_at q]
      have he : es[k]?.getD e0 ∈ es := by rw [get_eq k1]; exact List.getElem_mem k1
      have := E.ed _ he
      have := hlev _ he
      simp only
      omega
  · by_cases c : R k v = []
    · rw [c]; simp
    · by_cases ck : k ≤ Nat.log2 n
      · obtain ⟨t, ht, hle⟩ := (hS.fr k ck).no v hv c
        have lt := hT.at_ k (by omega)
        rw [Nat.zero_add] at lt
        obtain ⟨L, C, _⟩ := lt.lt E
        have ht' : t ∈ T[k]?.getD [] := ht
        have ok := L.okI E hN ht'
        rw [(hS.fr k ck).at_ t ht v hle]
        refine ⟨?_, fun x hx => ?_⟩
        · rw [List.length_map, fromX_length]
          exact Nat.le_trans ((L.li0 E).len hN (fun e he => by have := E.ed e he; omega) ht') (by omega)
        · obtain ⟨y, hy, rfl⟩ := List.mem_map.1 hx
          rw [pv_fst]
          have := ok y ((fromX_mem _ _ _).1 hy)
          exact ⟨this.1, this.2.1⟩
      · exact absurd (hS.top k v (by show Nat.log2 n < k; omega) hk hv) c

set_option maxRecDepth 100000 in
set_option maxHeartbeats 4000000 in
theorem load_C : LoadC := by
  intro w s sd hs
  by_cases c5 : 32768 < s.size
  · have c5' : (32768 : Int) < (s.size : Int) := by omega
    have HRt := hid (load_no (w := w) (ld5 c5) (Below.refl _ _))
    go_enter Tryz.func27, Tryz.ntmps27
    go_wp2_with fail
    go_ret2
    exact HRt.out
  · have c5' : ¬ (32768 : Int) < (s.size : Int) := by omega
    by_cases c6 : 4 ≤ s.size
    · have c6' : ¬ (s.size : Int) < 4 := by omega
      by_cases cm : s.extract 0 4 = ⟨#[72, 68, 84, 49]⟩
      · have cm' := mag_list.2 cm
        have Hk : Hid (4 ≤ s.size ∧ s.extract 0 4 = ⟨#[72, 68, 84, 49]⟩) := ⟨c6, cm⟩
        have hes : (s.extract 4 s.size).size = s.size - 4 := by rw [ByteArray.size_extract]; omega
        have HEs := hid hes
        have HC5 := hid c5
        have e4 : (4 : Int) ≤ (s.size : Int) := by omega
        clear cm hes
        go_enter Tryz.func27, Tryz.ntmps27
        go_wp2_with fail
        refine (splitFrames_any w (s.extract 4 s.size) (by have := HEs.out; omega)).mono ?_
        rintro e w1 ⟨hcase, hb1⟩
        have HB1 := hid hb1
        have hb1s := hb1.size
        rcases hcase with ⟨hno, a, b, c, rfl⟩ | ⟨a, b, c, hyes, rfl, hsz⟩
        · have HRt : Hid (∀ ob, LoadR s w (.returned (.tuple #[.pointer none, .int .i64 7])) (w1.alloc ob)) := fun ob => load_no (w := w) (k := 7) (ld7 HC5.out Hk.out hno) (hb1.alloc hb1s ob)
          clear hno hb1
          go_wp2_with fail
          go_ret2
          exact HRt.out _
        · have HP := hid hyes
          have hsz2 : a.size + b.size + c.size ≤ 32768 := by have := HEs.out; omega
          clear hyes hb1 hsz
          have HA0 : Hid (Below w.heap.size w (w1.alloc (.cells #[.string a, .string b, .string c] 78))) := HB1.out.alloc hb1s _
          have k1 : (w1.alloc (.cells #[.string a, .string b, .string c] 78)).cell? ⟨w1.heap.size, 1, none⟩ = some (.string b) := new_cell w1 _ _ 1
          have k2 : (w1.alloc (.cells #[.string a, .string b, .string c] 78)).cell? ⟨w1.heap.size, 2, none⟩ = some (.string c) := new_cell w1 _ _ 2
          have hcb : w1.heap.size < (w1.alloc (.cells #[.string a, .string b, .string c] 78)).heap.size := by simp
          have HK := hid (And.intro k1 k2)
          clear k1 k2
          go_wp2_with fail
          generalize w1.alloc (.cells #[.string a, .string b, .string c] 78) = wA at HA0 HK hcb ⊢
          generalize w1.heap.size = cb at HK hcb hb1s ⊢
          have hAs := HA0.out.size
          refine (readVertices_any wA a sd (by omega)).mono ?_
          rintro e w2 ⟨hv, hb2⟩
          have HB2 := hid hb2
          rcases hv with ⟨n, F, bb, q1, q2, q3, rfl, hbb, hix⟩ | ⟨rfl, hnv⟩
          · have HRn := hid (ld_n HC5.out Hk.out HP.out q1 q2 q3)
            have HX2 := hid hix
            have k1 := (hb2.cell (p := ⟨cb, 1, none⟩) hcb).trans HK.out.1
            have k2 := (hb2.cell (p := ⟨cb, 2, none⟩) hcb).trans HK.out.2
            have HK2 := hid k2
            have HBw : Hid (∀ w', But (fun q => q = bb) w2 w' → Below w.heap.size w w') := fun w' hb => (HA0.out.trans (HB2.out.mono hAs)).trans (hb.below (fun k hk => by subst hk; omega) (by have := HB2.out.size; omega))
            have hc2 : cb < w2.heap.size := by have := HB2.out.size; omega
            have hne : ¬ cb = bb := by omega
            clear hb2 hix q1
            go_wp2_with fail
            refine (readEdges_any w2 bb n (newR n) 0 F b HX2.out (by omega)).mono ?_
            rintro e w3 ⟨rfl, hb3, hes⟩
            have HB3 := hid hb3
            cases he : edgesC n b with
            | none =>
              rw [he] at HRn
              have HRt : Hid (LoadR s w (.returned (.tuple #[.pointer none, .int .i64 8])) w3) := load_no (k := 8) HRn.out (HBw.out _ hb3)
              simp only [Option.isSome_none]
              clear hes hb3 he
              go_wp2_with fail
              go_ret2
              exact HRt.out
            | some es =>
              rw [he] at HRn
              simp only at HRn
              obtain ⟨F3, hF3⟩ := hes es he
              obtain ⟨E, hlev⟩ := edgesC_ok he
              have HX3 := hid hF3
              have HE := hid E
              have HLv := hid hlev
              have k3 : w3.cell? ⟨cb, 2, none⟩ = some (.string c) := by
                rw [World.cell?_of_block (w := w2) (a := ⟨cb, 2, none⟩) (hb3.block cb hc2 hne)]; exact HK2.out
              simp only [Option.isSome_some]
              clear hes hb3 he hF3 E hlev k1 k2
              go_wp2_with fail
              refine (readTours_any w3 bb n es 0 F3 c HX3.out HE.out (by omega)).mono ?_
              rintro e w4 ⟨rfl, hb4, hts⟩
              have HB4 : Hid (But (fun q => q = bb) w2 w4) := HB3.out.same hb4
              cases ht : toursC n es c with
              | none =>
                rw [ht] at HRn
                have HRt : Hid (LoadR s w (.returned (.tuple #[.pointer none, .int .i64 9])) w4) := load_no (k := 9) HRn.out (HBw.out _ HB4.out)
                simp only [Option.isSome_none]
                clear hts hb4 ht
                go_wp2_with fail
                go_ret2
                exact HRt.out
              | some T =>
                rw [ht] at HRn
                simp only at HRn
                obtain ⟨hTl, R, F4, hF4, hSim⟩ := hts T ht
                obtain ⟨_, hTr⟩ := toursC_ok HE.out ht
                have HX4 := hid hF4
                have HSi := hid hSim
                have HLf := hid (levelF_rd HE.out HLv.out q3 hTl hTr hSim)
                obtain ⟨o1, o2⟩ := ld_ok HE.out HLv.out q2 q3 hTl hTr hSim
                have HO1 := hid o1
                have HO2 := hid o2
                simp only [Option.isSome_some]
                clear hts hb4 ht hF4 hSim hTr o1 o2 hTl
                go_wp2_with fail
                refine (levelsHold_any w4 bb n (look es) R 0 F4 HX4.out HO1.out HO2.out).mono ?_
                rintro e w5 ⟨cf, rfl, hcf, hb5⟩
                have hlf := hcf.trans HLf.out.symm
                have HB5 : Hid (Below w.heap.size w w5) := HBw.out _ (HB4.out.trans (S' := fun _ => False) (But.of hb5) (fun _ _ q => q.elim))
                cases cf
                · have HRt : Hid (LoadR s w (.returned (.tuple #[.pointer none, .int .i64 10])) w5) := load_no (k := 10) (by rw [HRn.out, if_neg (fun q => by have := hlf.2 q; simp at this)]) HB5.out
                  clear hcf hb5 hlf
                  go_wp2_with fail
                  go_ret2
                  exact HRt.out
                · have HRt : Hid (LoadR s w (.returned (.tuple #[ptr bb, .int .i64 0])) w5) := by
                    have rf : readF s = (0, some ⟨n, es, T⟩) := by rw [HRn.out, if_pos (hlf.1 rfl)]
                    refine ⟨some ⟨bb, 0, none⟩, by rw [rf]; rfl, HB5.out, fun q => by rw [rf] at q; simp at q, fun G q => ?_⟩
                    rw [rf] at q
                    injection q with q
                    subst q
                    exact ⟨bb, rfl, by omega, R, F4, HX4.out.below hb5, HSi.out⟩
                  clear hcf hb5 hlf
                  go_wp2_with fail
                  go_ret2
                  exact HRt.out
          · have HRt : Hid (LoadR s w (.returned (.tuple #[.pointer none, .int .i64 8])) w2) := load_no (k := 8) (ld8v HC5.out Hk.out HP.out hnv) (HA0.out.trans (hb2.mono hAs))
            clear hnv hb2
            go_wp2_with fail
            go_ret2
            exact HRt.out
      · have cm' : (!(s.extract 0 4).toList == [72, 68, 84, 49]) = true := by
          cases q : (!(s.extract 0 4).toList == [72, 68, 84, 49])
          · exact absurd (mag_list.1 q) cm
          · rfl
        have HRt := hid (load_no (w := w) (ld6 c5 (fun q => cm q.2)) (Below.refl _ _))
        clear cm
        go_enter Tryz.func27, Tryz.ntmps27
        go_wp2_with fail
        go_ret2
        exact HRt.out
    · have c6' : (s.size : Int) < 4 := by omega
      have HRt := hid (load_no (w := w) (ld6 c5 (fun q => c6 q.1)) (Below.refl _ _))
      go_enter Tryz.func27, Tryz.ntmps27
      go_wp2_with fail
      go_ret2
      exact HRt.out

end Go.Proofs.YtckallochdegiaaGreat
