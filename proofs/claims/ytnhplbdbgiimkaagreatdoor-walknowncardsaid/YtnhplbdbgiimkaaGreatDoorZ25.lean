/-
  Several texts in one: WOpen1, LLog, LPut.
-/
import Derived.Test.YtnhplbdbgiimkaaGreatDoorZ24
namespace Go.Proofs.YtnhplbdbgiimkaaGreatDoor
open Go.RowKit Go.Lib
set_option linter.unusedVariables false

theorem LMem.mono {w : World} {g : Nat} {c : LgC} {Sl T : Nat → Prop} {base : List UInt8} {recs : List (List UInt8)} {dl : List Nat} (h : LMem w g c Sl base recs dl) (hs : ∀ b, Sl b → T b) (ht : ∀ b, T b → b < w.heap.size) : LMem w g c T base recs dl :=
  ⟨h.at_, hs g h.mem, h.base, fun b hb => hs b (h.baseS b hb), h.recs.mono hs, h.dirty, fun b hb => hs b (h.dirtyS b hb), ht⟩
/-- The tail is the last piece taken. -/
def TailOf (c : LgC) (L : List C.Pc) : Prop :=
  (L = [] ∧ c.tf = 0 ∧ c.tc = 0 ∧ c.te = 0 ∧ c.tt = false ∧ c.age = 0) ∨ ∃ L' P, L = L' ++ [P] ∧ c.tf = P.file ∧ c.tc = P.rest.length ∧ c.te = P.fin ∧ c.tt = P.torn ∧ c.age = P.age
/-- Behind so many pieces. -/
structure OpInv (w w4 wr : World) (d : Nat) (Sd : Nat → Prop) (s : C.St) (part gl : Nat) (R : List C.Pc) (k : Nat) (vf : Value) (c : LgC) : Prop where
  cd_ : c.d = d
  cl : c.lives = s.lives
  cf : c.full = false
  cp : c.part = part
  tail : TailOf c (R.take k)
  mem : LMem wr gl c (fun b => w.heap.size ≤ b ∧ b < wr.heap.size) (C.basL [] (R.take k)) (C.resL (R.take k)) []
  rows : ∀ b, c.recs.ownBlock = some b → w4.heap.size ≤ b
  disk : Disk wr d Sd (C.syncs ((R.take k).map C.Pc.file) s)
  files : OwnI wr vf ((R.take k).map C.Pc.file)
  fnew : ∀ b, vf.ownBlock = some b → w4.heap.size ≤ b
  dnil : c.dirty = .slice none 0 0
  turn : Turn w4 wr Sd
theorem resL_len (l : List C.Pc) : (C.resL l).length ≤ (l.flatMap C.Pc.recs).length := by
  induction l with
  | nil => exact Nat.le_refl _
  | cons P l ih =>
    show (P.rest ++ C.resL l).length ≤ (P.recs ++ l.flatMap C.Pc.recs).length
    rw [List.length_append, List.length_append]
    have : P.rest.length ≤ P.recs.length := by
      show (if P.first = 0 then P.recs.tail else P.recs).length ≤ _
      split
      · rw [List.length_tail]; omega
      · exact Nat.le_refl _
    omega
/-- A piece's box, its six cells. -/
theorem piece_box {w : World} {g : Nat} {x : Pm} (h : ∀ j u, (encP x)[j]? = some u → w.cell? ⟨g, j, none⟩ = some u) : w.cell? ⟨g, 0, none⟩ = some (.int .i64 (x.c.file : Nat)) ∧ w.cell? ⟨g, 1, none⟩ = some (.int .i64 (x.c.age : Nat)) ∧ w.cell? ⟨g, 2, none⟩ = some (.int .i64 (x.c.first : Nat)) ∧ w.cell? ⟨g, 3, none⟩ = some x.rv ∧ w.cell? ⟨g, 4, none⟩ = some (.int .i64 (x.c.fin : Nat)) ∧ w.cell? ⟨g, 5, none⟩ = some (.bool x.c.torn) :=
  ⟨h 0 _ rfl, h 1 _ rfl, h 2 _ rfl, h 3 _ rfl, h 4 _ rfl, h 5 _ rfl⟩
theorem OwnI.nil (w : World) : OwnI w (.slice none 0 0) [] := World.ownsRow_nil _ _ _ _
theorem row_split {R : List C.Pc} {k : Nat} {P : C.Pc} (h : R[k]? = some P) : R = R.take k ++ P :: R.drop (k + 1) := by
  obtain ⟨hk, rfl⟩ := List.getElem?_eq_some_iff.1 h
  rw [← List.drop_eq_getElem_cons hk, List.take_append_drop]
theorem row_bound {R : List C.Pc} {k : Nat} {P : C.Pc} (h : R[k]? = some P) : (C.resL (R.take k)).length + P.recs.length ≤ (R.flatMap C.Pc.recs).length := by
  have h1 := resL_len (R.take k)
  have h2 : (R.flatMap C.Pc.recs).length = ((R.take k).flatMap C.Pc.recs).length + (P.recs.length + ((R.drop (k + 1)).flatMap C.Pc.recs).length) := by
    conv => lhs; rw [row_split h]
    rw [List.flatMap_append, List.length_append, List.flatMap_cons, List.length_append]
  omega
theorem row_take {R : List C.Pc} {k : Nat} {P : C.Pc} (h : R[k]? = some P) : R.take (k + 1) = R.take k ++ [P] := by
  rw [List.take_add_one, h]
  rfl
theorem has_ne {P : C.Pc} (h : C.has P = true) : P.recs ≠ [] := fun e => by
  unfold C.has at h
  rw [e] at h
  simp at h
/-- Behind a turn of a row of ints. -/
theorem LMem.ints {w w' : World} {g : Nat} {c : LgC} {Sl S : Nat → Prop} {base : List UInt8} {recs : List (List UInt8)} {dl : List Nat} (h : LMem w g c Sl base recs dl) (ht : Turn w w' S) (hi : ∀ x, S x → x < w.heap.size → ∃ cur m, w.heap[x]? = some (.cells cur 3 m)) (hd : ∀ b, c.dirty.ownBlock = some b → ¬ S b) : LMem w' g c Sl base recs dl := by
  have key : ∀ {b t : Nat} {cs : Array Value} {m : Nat × Nat}, w.heap[b]? = some (.cells cs t m) → t ≠ 3 → w'.heap[b]? = w.heap[b]? := fun {b t cs m} hb hne => by
    have hlt : b < w.heap.size := (Array.getElem?_eq_some_iff.1 hb).1
    refine ht.block b hlt fun hs => ?_
    obtain ⟨cur, m', h1⟩ := hi b hs hlt
    exact cells_ne hb h1 hne rfl
  obtain ⟨ps, h1, h2, h3, h4⟩ := h.recs
  refine ⟨(key h.at_ (by decide)).trans h.at_, h.mem, h.base.same fun b hb => ?_, h.baseS, ⟨ps, h1.same fun b hb => ?_, h2, fun x hx => ⟨(h3 x hx).1.same fun b hb => ?_, (h3 x hx).2⟩, h4⟩, row_same h.dirty fun b hb => ht.block b (row_lt h.dirty hb) (hd b hb), h.dirtyS, fun b hb => Nat.lt_of_lt_of_le (h.lt b hb) ht.size⟩
  · obtain ⟨cur, hc⟩ := row_type h.base hb
    exact key hc (by decide)
  · obtain ⟨cur, hc⟩ := row_type h1 hb
    exact key hc (by decide)
  · obtain ⟨cur, hc⟩ := row_type (h3 x hx).1 hb
    exact key hc (by decide)
end Go.Proofs.YtnhplbdbgiimkaaGreatDoor

namespace Go.Proofs.YtnhplbdbgiimkaaGreatDoor
open Go.RowKit Go.Lib
set_option linter.unusedVariables false

namespace C
theorem range_or (p : Nat → Bool) (f : Nat) : ∀ n, ((List.range n).filter fun k => p k || k == f).length ≤ ((List.range n).filter p).length + if f < n then 1 else 0
  | 0 => by simp
  | n + 1 => by
    have ih := range_or p f n
    rw [List.range_succ, List.filter_append, List.filter_append, List.length_append, List.length_append]
    by_cases hf : n = f
    · subst hf
      rw [if_neg (Nat.lt_irrefl _)] at ih
      rw [if_pos (Nat.lt_succ_self _)]
      have h1 : ([n].filter fun k => p k || k == n).length ≤ 1 := List.length_filter_le _ _
      omega
    · have h2 : (([n].filter fun k => p k || k == f)).length = ([n].filter p).length := by
        have : (n == f) = false := by simpa using hf
        simp [List.filter_cons, this]
      rw [h2]
      by_cases h3 : f < n
      · rw [if_pos h3] at ih
        rw [if_pos (by omega)]; omega
      · rw [if_neg h3] at ih
        rw [if_neg (by omega)]; omega
theorem fs_app (s : St) (f : Nat) (l : List UInt8) : (fs (appS s f l)).length ≤ (fs s).length + 1 := by
  have h := range_or s.is f 1000
  have h2 : (if f < 1000 then 1 else 0) ≤ 1 := by split <;> omega
  exact Nat.le_trans h (by unfold fs; omega)
theorem fs_sub {s s' : St} (h : ∀ k, s'.is k = true → s.is k = true) : (fs s').length ≤ (fs s).length := by
  unfold fs
  rw [← List.countP_eq_length_filter, ← List.countP_eq_length_filter]
  exact List.countP_mono_left fun x _ hx => h x hx
theorem used_filter (p : Wr → Bool) : ∀ ws : List Wr, used (ws.filter p) ≤ used ws
  | [] => Nat.le_refl _
  | x :: ws => by
    have ih := used_filter p ws
    rw [List.filter_cons]
    split
    · simp only [used]; omega
    · simp only [used]; omega
theorem crashL_used (keep torn : Int) : ∀ (ws : List Wr) (n : Nat), used (crashL keep torn n ws) ≤ used ws
  | [], _ => Nat.le_refl _
  | x :: ws, n => by
    rw [crashL]
    split
    · have := crashL_used keep torn ws n
      simp only [used]; omega
    · have h1 := crashL_used keep torn ws (n + 1)
      have h2 := stay_le keep torn n x.bytes.length
      simp only [used, cutW_length]; omega
theorem syncs_used : ∀ (l : List Nat) (s : St), used (syncs l s).ws = used s.ws
  | [], s => rfl
  | f :: l, s => by
    show used (syncs l (syncS s f)).ws = _
    rw [syncs_used l (syncS s f)]
    exact sync_used f s.ws
/-- So many files, so many writes, so many bytes at most. -/
structure Bud (s : St) (n M : Nat) : Prop where
  files : (fs s).length ≤ n
  made : s.made ≤ M
  used : used s.ws ≤ 600 * n
theorem Bud.mono {s : St} {n M n' M' : Nat} (h : Bud s n M) (hn : n ≤ n') (hM : M ≤ M') : Bud s n' M' := ⟨Nat.le_trans h.files hn, Nat.le_trans h.made hM, Nat.le_trans h.used (Nat.mul_le_mul_left _ hn)⟩
theorem Bud.app {s : St} {n M k : Nat} (h : Bud s n M) {f : Nat} {l : List UInt8} (hl : l.length ≤ 600 * k) (hk : 0 < k) : Bud (appS s f l) (n + k) (M + 1) := by
  refine ⟨by have := fs_app s f l; have := h.files; omega, by have := h.made; show s.made + 1 ≤ _; omega, ?_⟩
  show C.used (s.ws ++ [_]) ≤ _
  rw [used_append]
  have := h.used
  simp only [C.used]
  omega
theorem Bud.sub {s s' : St} {n M : Nat} (h : Bud s n M) (hi : ∀ k, s'.is k = true → s.is k = true) (hm : s'.made = s.made) (hu : C.used s'.ws ≤ C.used s.ws) : Bud s' n M :=
  ⟨Nat.le_trans (fs_sub hi) h.files, by rw [hm]; exact h.made, Nat.le_trans hu h.used⟩
theorem Bud.crash {s : St} {n M : Nat} (h : Bud s n M) (keep torn : Int) : Bud (crashS s keep torn) n M := h.sub (fun k hk => hk) rfl (crashL_used keep torn s.ws 0)
theorem Bud.on {s : St} {n M : Nat} (h : Bud s n M) : Bud (onS s) n M := h.sub (fun k hk => hk) rfl (Nat.le_refl _)
theorem Bud.syncs {s : St} {n M : Nat} (h : Bud s n M) (l : List Nat) : Bud (syncs l s) n M := by
  obtain ⟨k1, k2, k3, k4, k5⟩ := syncs_is l s
  exact h.sub (fun k hk => by rw [← k1]; exact hk) k4 (Nat.le_of_eq (syncs_used l s))
theorem Bud.dropBut {s : St} {n M : Nat} (h : Bud s n M) (Lf : List Int) (F : List Nat) : Bud (dropBut Lf F s) n M := by
  obtain ⟨k1, k2, k3, k4⟩ := dropBut_off Lf F s
  refine h.sub (fun k hk => ?_) k3 ?_
  · rw [dropBut_is, Bool.and_eq_true] at hk
    exact hk.1
  · rw [dropBut_ws]; exact used_filter _ _
theorem Bud.open_ {s : St} {n M : Nat} (h : Bud s n M) (a : Nat) (G : List Gr) : Bud (openS s a G) n M := (h.syncs _).dropBut _ _
theorem Bud.new (room : Nat) : Bud (newS room) 0 0 := by
  refine ⟨?_, Nat.le_refl _, Nat.le_refl _⟩
  have : fs (newS room) = [] := List.filter_eq_nil_iff.2 fun k _ => by simp [newS]
  rw [this]; exact Nat.le_refl _
/-- An Append to a new file, and its Drop: as it was. -/
theorem drop_new {s : St} (hok : s.Ok) {f : Nat} (hf : s.is f = false) (l : List UInt8) : (dropS (appS s f l) f).ws = s.ws ∧ (dropS (appS s f l) f).is = s.is ∧ (dropS (appS s f l) f).made = s.made + 1 ∧ (dropS (appS s f l) f).off = s.off ∧ (dropS (appS s f l) f).lives = s.lives ∧ (dropS (appS s f l) f).room = s.room := by
  refine ⟨?_, ?_, rfl, rfl, rfl, rfl⟩
  · show dropL (s.ws ++ [_]) f = _
    unfold dropL
    rw [List.filter_append]
    have h1 : s.ws.filter (fun x => !(x.file == f)) = s.ws := List.filter_eq_self.2 fun x hx => by
      have h2 := hok.has x hx
      have : x.file ≠ f := fun e => by rw [e, hf] at h2; cases h2
      simpa using this
    rw [h1]
    simp
  · funext k
    show ((s.is k || k == f) && !(k == f)) = s.is k
    by_cases hk : k = f
    · subst hk; simp [hf]
    · have : (k == f) = false := by simpa using hk
      simp [this]
theorem LogW.congr {s s' : St} {a : Nat} {G : List Gr} (h : LogW s a G) (hw : s'.ws = s.ws) (hi : s'.is = s.is) : LogW s' a G :=
  ⟨h.age, by rw [hw]; exact h.ws, h.gs, h.chain, h.torn, h.ok, h.uns, h.ahead, fun k => by rw [hi]; exact h.files k, h.few, h.base⟩
theorem not_file {s : St} {a : Nat} {G : List Gr} (h : LogW s a G) (hok : s.Ok) {f : Nat} (hf : ¬ f ∈ fs s) : s.is f = false ∧ ¬ f ∈ G.map Gr.file := by
  have h1 : s.is f = false := by
    cases hi : s.is f with
    | false => rfl
    | true => exact absurd (List.mem_filter.2 ⟨List.mem_range.2 (hok.files f hi), hi⟩) hf
  exact ⟨h1, fun hm => by rw [(h.files f).2 hm] at h1; cases h1⟩
theorem recs_small {s : St} {a : Nat} {G : List Gr} (h : LogW s a G) : ∀ r ∈ recsL (flat G), r.length ≤ 65536 := fun r hr => by
  obtain ⟨c, hc, hrc⟩ := List.mem_flatMap.1 hr
  exact (h.ok c hc).recs r hrc
theorem whole_small {s : St} {a : Nat} {G : List Gr} (h : LogW s a G) {base : List UInt8} {recs : List (List UInt8)} (hr : recsL (flat G) = whole a base recs) (hb : a = 0 → base = []) : base.length ≤ 65536 ∧ ∀ r ∈ recs, r.length ≤ 65536 := by
  have h1 := recs_small h
  rw [hr] at h1
  unfold whole at h1
  by_cases ha : a = 0
  · rw [if_pos ha] at h1
    exact ⟨by rw [hb ha]; simp, h1⟩
  · rw [if_neg ha] at h1
    exact ⟨h1 base (List.mem_cons_self ..), fun r hr => h1 r (List.mem_cons_of_mem _ hr)⟩
theorem whole_len (a : Nat) (base : List UInt8) (recs : List (List UInt8)) : st a + (whole a base recs).length = recs.length + 1 := by
  unfold st whole
  by_cases ha : a = 0
  · rw [if_pos ha, if_pos ha]; omega
  · rw [if_neg ha, if_neg ha, List.length_cons]; omega
theorem whole_app (a : Nat) (base : List UInt8) (recs l : List (List UInt8)) : whole a base (recs ++ l) = whole a base recs ++ l := by
  unfold whole
  by_cases ha : a = 0
  · rw [if_pos ha, if_pos ha]
  · rw [if_neg ha, if_neg ha]; rfl
end C
/-- The tail: nothing at all; or the last file, which takes more unless something is torn in it. -/
def TailG (c : LgC) (G : List C.Gr) : Prop :=
  (G = [] ∧ c.tf = 0) ∨ ∃ G' g, G = G' ++ [g] ∧ c.tf = g.file ∧ (c.tt = false → ∀ x ∈ g.cs, x.tl = [])
/-- A log at gl, its memory recs, on its disk drecs (behind a write the one is ahead of the other). -/
structure LogM (w : World) (gl : Nat) (c : LgC) (S : Nat → Prop) (s : C.St) (a : Nat) (G : List C.Gr) (base : List UInt8) (recs drecs : List (List UInt8)) (n M : Nat) : Prop where
  sets : ∃ Sl Sd dl, LMem w gl c Sl base recs dl ∧ Disk w c.d Sd s ∧ (∀ b, Sl b → S b) ∧ (∀ b, Sd b → S b) ∧ (∀ b, Sl b → ¬ Sd b) ∧ (∀ x ∈ C.flat G, x.safe = false → x.file ∈ dl) ∧ (∀ f ∈ dl, s.is f = true) ∧ dl.length ≤ M
  lt : ∀ b, S b → b < w.heap.size
  log : C.LogW s a G
  hold : C.recsL (C.flat G) = C.whole a base drecs
  base0 : a = 0 → base = []
  tail : TailG c G
  tc : c.tc ≤ drecs.length
  off : s.off = false
  lives : c.lives = s.lives
  full : c.full = false
  age : c.age = a
  part : 1 ≤ c.part ∧ c.part ≤ 1000
  bud : C.Bud s n M
section
variable {w w' : World} {gl : Nat} {c : LgC} {S T : Nat → Prop} {s : C.St} {a : Nat} {G : List C.Gr} {base : List UInt8} {recs drecs : List (List UInt8)} {n M : Nat}
theorem LogM.ok (h : LogM w gl c S s a G base recs drecs n M) : s.Ok := by
  obtain ⟨Sl, Sd, dl, h1, h2, _⟩ := h.sets
  exact h2.ok
theorem LogM.done (h : LogM w gl c S s a G base recs drecs n M) : doneB c s = false := by
  unfold doneB
  rw [h.full, h.off, h.lives]
  simp
theorem LogM.turn (h : LogM w gl c S s a G base recs drecs n M) (ht : Turn w w' T) (hn : ∀ b, S b → ¬ T b) : LogM w' gl c S s a G base recs drecs n M := by
  obtain ⟨Sl, Sd, dl, h1, h2, h3, h4, h5⟩ := h.sets
  exact ⟨⟨Sl, Sd, dl, h1.turn ht fun b hb => hn b (h3 b hb), h2.turn ht fun b hb => hn b (h4 b hb), h3, h4, h5⟩, fun b hb => Nat.lt_of_lt_of_le (h.lt b hb) ht.size, h.log, h.hold, h.base0, h.tail, h.tc, h.off, h.lives, h.full, h.age, h.part, h.bud⟩
theorem LogM.below (h : LogM w gl c S s a G base recs drecs n M) (hb : Below w.heap.size w w') : LogM w' gl c S s a G base recs drecs n M := h.turn (T := fun _ => False) (Turn.of_below hb) fun _ _ h => h
theorem LogM.mono (h : LogM w gl c S s a G base recs drecs n M) {n' M' : Nat} (hn : n ≤ n') (hM : M ≤ M') : LogM w gl c S s a G base recs drecs n' M' := by
  obtain ⟨Sl, Sd, dl, h1, h2, h3, h4, h5, h6, h7, h8⟩ := h.sets
  exact ⟨⟨Sl, Sd, dl, h1, h2, h3, h4, h5, h6, h7, Nat.le_trans h8 hM⟩, h.lt, h.log, h.hold, h.base0, h.tail, h.tc, h.off, h.lives, h.full, h.age, h.part, h.bud.mono hn hM⟩
theorem LogM.small (h : LogM w gl c S s a G base recs drecs n M) : base.length ≤ 65536 ∧ ∀ r ∈ drecs, r.length ≤ 65536 := C.whole_small h.log h.hold h.base0
theorem LogM.num (h : LogM w gl c S s a G base recs drecs n M) : C.st a + (C.recsL (C.flat G)).length = drecs.length + 1 := by rw [h.hold]; exact C.whole_len a base drecs
end
end Go.Proofs.YtnhplbdbgiimkaaGreatDoor

namespace Go.Proofs.YtnhplbdbgiimkaaGreatDoor
open Go.RowKit Go.Lib
set_option linter.unusedVariables false

namespace C
/-- Nothing is torn. -/
def Clean (G : List Gr) : Prop := ∀ x ∈ flat G, x.tl = []
/-- No more is safe, nothing more is torn. -/
def Kept (G' G : List Gr) : Prop := safeN (flat G') = safeN (flat G) ∧ (Clean G → Clean G')
theorem Kept.refl (G : List Gr) : Kept G G := ⟨rfl, id⟩
theorem Kept.trans {A B D : List Gr} (h : Kept A B) (k : Kept B D) : Kept A D := ⟨h.1.trans k.1, fun x => h.2 (k.2 x)⟩
theorem Clean.sf {G : List Gr} (h : Clean G) : Clean (G.map Gr.sf) := fun x hx => by
  rw [flat_mk] at hx
  obtain ⟨y, hy, rfl⟩ := List.mem_map.1 hx
  exact h y hy
theorem Clean.filter {G : List Gr} (h : Clean G) (p : Gr → Bool) : Clean (G.filter p) := fun x hx => by
  unfold flat at hx
  obtain ⟨g, hg, hx⟩ := List.mem_flatMap.1 hx
  exact h x (List.mem_flatMap.2 ⟨g, (List.mem_filter.1 hg).1, hx⟩)
theorem LogW.put {s : St} {a : Nat} {G : List Gr} (h : LogW s a G) (hok : s.Ok) {base : List UInt8} {drecs rs : List (List UInt8)} (hd : recsL (flat G) = whole a base drecs) {f : Nat} (hf : (¬ f ∈ fs s) ∨ ∃ G' g, G = G' ++ [g] ∧ f = g.file ∧ ∀ x ∈ g.cs, x.tl = []) (hne : rs ≠ []) (hr : ∀ r ∈ rs, r.length ≤ 65536) (hn : drecs.length + 1 + rs.length ≤ 4294967296) :
    ∃ G2, LogW (appS s f (ents a (drecs.length + 1) rs)) a G2 ∧ recsL (flat G2) = whole a base (drecs ++ rs) ∧ (∃ G' g, G2 = G' ++ [g] ∧ f = g.file ∧ ∀ x ∈ g.cs, x.tl = []) ∧ (∀ x ∈ flat G2, x.safe = false → (x ∈ flat G ∧ x.safe = false) ∨ x.file = f) ∧ Kept G2 G := by
  have hnum : st a + (recsL (flat G)).length = drecs.length + 1 := by rw [hd]; exact whole_len a base drecs
  rcases hf with hf | ⟨G', g, rfl, rfl, htl⟩
  · obtain ⟨hi, hG⟩ := not_file h hok hf
    have h1 := h.addNew hG hne hr (fun ha e => by
      rw [e] at hd
      unfold whole at hd
      rw [if_neg (by omega)] at hd
      exact absurd hd (by simp [flat, recsL])) (by rw [hnum]; exact hn)
    rw [hnum] at h1
    refine ⟨_, h1, ?_, ⟨G, _, rfl, rfl, fun x hx => ?_⟩, fun x hx hs => ?_, ?_⟩
    · rw [flat_append, recsL_append, hd, whole_app]
      simp [flat, recsL]
    · obtain rfl := List.mem_singleton.1 hx
      rfl
    · rw [flat_append] at hx
      rcases List.mem_append.1 hx with hx | hx
      · exact Or.inl ⟨hx, hs⟩
      · refine Or.inr ?_
        have : x = ⟨f, drecs.length + 1, rs, [], false⟩ := by simpa [flat] using hx
        rw [this]
    · refine ⟨?_, fun hcl x hx => ?_⟩
      · rw [flat_append]
        unfold safeN
        rw [List.filter_append]
        simp [flat]
      · rw [flat_append] at hx
        rcases List.mem_append.1 hx with hx | hx
        · exact hcl x hx
        · have : x = ⟨f, drecs.length + 1, rs, [], false⟩ := by simpa [flat] using hx
          rw [this]
  · have h1 := h.addTail htl hne hr (by rw [hnum]; exact hn)
    rw [hnum] at h1
    refine ⟨_, h1, ?_, ⟨G', _, rfl, rfl, fun x hx => ?_⟩, fun x hx hs => ?_, ?_⟩
    · have e : flat (G' ++ [(⟨g.file, g.cs ++ [⟨g.file, drecs.length + 1, rs, [], false⟩]⟩ : Gr)]) = flat (G' ++ [g]) ++ [⟨g.file, drecs.length + 1, rs, [], false⟩] := by
        rw [flat_append, flat_append]; simp [flat]
      rw [e, recsL_append, hd, whole_app]
      simp [recsL]
    · rcases List.mem_append.1 hx with hx | hx
      · exact htl x hx
      · obtain rfl := List.mem_singleton.1 hx
        rfl
    · have e : flat (G' ++ [(⟨g.file, g.cs ++ [⟨g.file, drecs.length + 1, rs, [], false⟩]⟩ : Gr)]) = flat (G' ++ [g]) ++ [⟨g.file, drecs.length + 1, rs, [], false⟩] := by
        rw [flat_append, flat_append]; simp [flat]
      rw [e] at hx
      rcases List.mem_append.1 hx with hx | hx
      · exact Or.inl ⟨hx, hs⟩
      · refine Or.inr ?_
        obtain rfl := List.mem_singleton.1 hx
        rfl
    · have e : flat (G' ++ [(⟨g.file, g.cs ++ [⟨g.file, drecs.length + 1, rs, [], false⟩]⟩ : Gr)]) = flat (G' ++ [g]) ++ [⟨g.file, drecs.length + 1, rs, [], false⟩] := by
        rw [flat_append, flat_append]; simp [flat]
      refine ⟨?_, fun hcl x hx => ?_⟩
      · rw [e]
        unfold safeN
        rw [List.filter_append]
        simp
      · rw [e] at hx
        rcases List.mem_append.1 hx with hx | hx
        · exact hcl x hx
        · obtain rfl := List.mem_singleton.1 hx
          rfl
/-- The tail, where it takes more: its file is a new one, or the last. -/
theorem tail_file {s : St} {a : Nat} {G : List Gr} (h : LogW s a G) {c : LgC} (ht : TailG c G) (htt : c.tt = false) : (¬ c.tf ∈ fs s) ∨ ∃ G' g, G = G' ++ [g] ∧ c.tf = g.file ∧ ∀ x ∈ g.cs, x.tl = [] := by
  rcases ht with ⟨rfl, e⟩ | ⟨G', g, e1, e2, e3⟩
  · refine Or.inl fun hm => ?_
    have := (h.files _).1 (fs_mem hm).2
    simp at this
  · exact Or.inr ⟨G', g, e1, e2, e3 htt⟩
theorem tail_lt {s : St} {a : Nat} {G : List Gr} (h : LogW s a G) (hok : s.Ok) {c : LgC} (ht : TailG c G) : c.tf < 1000 := by
  rcases ht with ⟨rfl, e⟩ | ⟨G', g, e1, e2, e3⟩
  · omega
  · refine hok.files _ ((h.files _).2 ?_)
    rw [e1, e2]
    simp
theorem ents_six (a n : Nat) (rs : List (List UInt8)) (hr : ∀ r ∈ rs, r.length ≤ 570) : (ents a n rs).length ≤ 600 * rs.length := by
  have := ents_length_le a 570 n rs hr
  omega
end C
/-- Rows of bytes that lie outside of S. -/
structure Out (w : World) (S : Nat → Prop) (p : Option Addr) (ps : List Part) : Prop where
  row : PAt w p ps
  rowS : ∀ a, p = some a → a.block < w.heap.size → ¬ S a.block
  ok : ∀ x ∈ ps, x.ok w
  okS : ∀ x ∈ ps, ∀ a, x.p = some a → a.block < w.heap.size → ¬ S a.block
theorem BAt.turn {w w' : World} {S : Nat → Prop} {p : Option Addr} {l : List UInt8} (h : BAt w p l) (ht : Turn w w' S) (hn : ∀ a, p = some a → a.block < w.heap.size → ¬ S a.block) : BAt w' p l := fun hl => by
  obtain ⟨b, o, hp, hc⟩ := h hl
  exact ⟨b, o, hp, fun i hi => cell_turn ht (hc i hi) (hn _ hp (World.block_lt_of_cell? (a := ⟨b, o + i, none⟩) w (hc i hi)))⟩
theorem Part.ok.turn {w w' : World} {S : Nat → Prop} {x : Part} (h : x.ok w) (ht : Turn w w' S) (hn : ∀ a, x.p = some a → a.block < w.heap.size → ¬ S a.block) : x.ok w' := ⟨h.1, BAt.turn h.2 ht hn⟩
theorem PAt.turn {w w' : World} {S : Nat → Prop} {p : Option Addr} {ps : List Part} (h : PAt w p ps) (ht : Turn w w' S) (hn : ∀ a, p = some a → a.block < w.heap.size → ¬ S a.block) : PAt w' p ps := fun hl => by
  obtain ⟨b, o, hp, hc⟩ := h hl
  exact ⟨b, o, hp, fun i x hi => cell_turn ht (hc i x hi) (hn _ hp (World.block_lt_of_cell? (a := ⟨b, o + i, none⟩) w (hc i x hi)))⟩
/-- Rows of bytes that stay wherever blocks of S are turned. -/
def Stay (w : World) (S : Nat → Prop) (p : Option Addr) (ps : List Part) : Prop := ∀ W, Turn w W S → PAt W p ps ∧ ∀ x ∈ ps, x.ok W
def Stay1 (w : World) (S : Nat → Prop) (x : Part) : Prop := ∀ W, Turn w W S → x.ok W
theorem Out.stay {w : World} {S : Nat → Prop} {p : Option Addr} {ps : List Part} (h : Out w S p ps) : Stay w S p ps := fun W hW => ⟨h.row.turn hW h.rowS, fun x hx => (h.ok x hx).turn hW (h.okS x hx)⟩
theorem Stay.ext {w w1 : World} {S : Nat → Prop} {p : Option Addr} {ps : List Part} (h : Stay w S p ps) (ht : Turn w w1 S) : Stay w1 (Ext w w1 S) p ps := fun W hW => h W (ht.ext hW)
theorem Stay.turn {w w1 : World} {S : Nat → Prop} {p : Option Addr} {ps : List Part} (h : Stay w S p ps) (ht : Turn w w1 S) : Stay w1 S p ps := fun W hW => h W (ht.trans hW fun x hx => Or.inl hx)
theorem Stay1.ext {w w1 : World} {S : Nat → Prop} {x : Part} (h : Stay1 w S x) (ht : Turn w w1 S) : Stay1 w1 (Ext w w1 S) x := fun W hW => h W (ht.ext hW)
theorem Stay1.turn {w w1 : World} {S : Nat → Prop} {x : Part} (h : Stay1 w S x) (ht : Turn w w1 S) : Stay1 w1 S x := fun W hW => h W (ht.trans hW fun x hx => Or.inl hx)
/-- Go's tables stay. -/
def TStay (w : World) (S : Nat → Prop) : Prop := ∀ W, Turn w W S → Tabs W
theorem TStay.ext {w w1 : World} {S : Nat → Prop} (h : TStay w S) (ht : Turn w w1 S) : TStay w1 (Ext w w1 S) := fun W hW => h W (ht.ext hW)
theorem TStay.turn {w w1 : World} {S : Nat → Prop} (h : TStay w S) (ht : Turn w w1 S) : TStay w1 S := fun W hW => h W (ht.trans hW fun x hx => Or.inl hx)
theorem TStay.of {w0 w : World} {S : Nat → Prop} (h : Tabs w0) (hb : Below w0.heap.size w0 w) (hs : ∀ b, S b → w0.heap.size ≤ b) : TStay w S := fun W hW => h.below (hb.trans (hW.below hb.size hs))
theorem Stay.of {w0 w : World} {S : Nat → Prop} {p : Option Addr} {ps : List Part} (h : PAt w0 p ps) (ho : ∀ x ∈ ps, x.ok w0) (hb : Below w0.heap.size w0 w) (hs : ∀ b, S b → w0.heap.size ≤ b) : Stay w S p ps := fun W hW => ⟨h.below (hb.trans (hW.below hb.size hs)), fun x hx => (ho x hx).below (hb.trans (hW.below hb.size hs))⟩
theorem Stay1.of {w0 w : World} {S : Nat → Prop} {x : Part} (h : x.ok w0) (hb : Below w0.heap.size w0 w) (hs : ∀ b, S b → w0.heap.size ≤ b) : Stay1 w S x := fun W hW => h.below (hb.trans (hW.below hb.size hs))
end Go.Proofs.YtnhplbdbgiimkaaGreatDoor
