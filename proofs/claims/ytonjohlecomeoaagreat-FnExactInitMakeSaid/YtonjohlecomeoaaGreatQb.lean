/- Several small texts, one behind the other. -/
import Derived.Test.YtonjohlecomeoaaGreatQa
import Derived.Shelf.Strings.OnBuilder
import Derived.Test.YtonjohlecomeoaaGreatProg
import Derived.Shelf.Sort.Plain
import Derived.Shelf.Slices.CompactS
import Derived.Shelf.Slices.Cells
import Derived.Shelf.Slices.In.SortNone

/- Make as a plain function, where there are as many args as there must be. -/
namespace Go.Proofs.YtonjohlecomeoaaGreat.smk
open Go Go.RowKit Go.Proofs.YtonjohlecomeoaaGreat.tm Go.Proofs.YtonjohlecomeoaaGreat.spm Go.Proofs.YtonjohlecomeoaaGreat.mkp
set_option linter.unusedVariables false

theorem makeR_args {op : Bs} {args : List Bs} (h1 : args.length ≤ 400) (h2 : op.length ≤ 8000) (hm : many op ≠ 0) (hl : args.length = many op) : makeR op args = if args.all (rights op) then finR (madeT op args) else ([], 1) := by
  unfold makeR
  rw [if_neg (by omega), if_neg (by omega)]

theorem rights_eq (op x : Bs) : rights op x = ((term x).isSome && (!secret op || atomR x)) := rfl
end Go.Proofs.YtonjohlecomeoaaGreat.smk

/- What Dh answers, as plain mathematics. -/
namespace Go.Proofs.YtonjohlecomeoaaGreat.dhs
open Go Go.RowKit Go.Proofs.YtonjohlecomeoaaGreat.tm Go.Proofs.YtonjohlecomeoaaGreat.spm Go.Proofs.YtonjohlecomeoaaGreat.mkp Go.Proofs.YtonjohlecomeoaaGreat.smk
set_option linter.unusedVariables false

/-- What Dh answers. -/
inductive DhR (x p : Bs) : Bs → Int → Prop
  | size (h : 8000 < x.length ∨ 8000 < p.length) : DhR x p [] 2
  | atom (h1 : x.length ≤ 8000) (h2 : p.length ≤ 8000) (h : atomR x = false) : DhR x p [] 1
  | form (h1 : x.length ≤ 8000) (h2 : p.length ≤ 8000) (ha : atomR x = true) (h : term p = none) : DhR x p [] 1
  | other (h1 : x.length ≤ 8000) (h2 : p.length ≤ 8000) (ha : atomR x = true) (T : Tm) (hT : term p = some T) (h : T.op ≠ oPub) : DhR x p [] 1
  | pub (h1 : x.length ≤ 8000) (h2 : p.length ≤ 8000) (ha : atomR x = true) (s : Bs) (hT : term p = some (.pub s)) : DhR x p (dhS x s) 0

theorem op_pub {T : Tm} (h : T.op = oPub) : ∃ s, T = .pub s := by
  cases T with
  | pub s => exact ⟨s, rfl⟩
  | _ => simp [Tm.op, oShut, oPair, oHash, oMac, oPub, oDh] at h

theorem dh_total (x p : Bs) : ∃ r c, DhR x p r c := by
  by_cases hs : 8000 < x.length ∨ 8000 < p.length
  · exact ⟨_, _, .size hs⟩
  have h1 : x.length ≤ 8000 := by omega
  have h2 : p.length ≤ 8000 := by omega
  cases ha : atomR x with
  | false => exact ⟨_, _, .atom h1 h2 ha⟩
  | true =>
    cases hT : term p with
    | none => exact ⟨_, _, .form h1 h2 ha hT⟩
    | some T =>
      by_cases ho : T.op = oPub
      · obtain ⟨s, rfl⟩ := op_pub ho
        exact ⟨_, _, .pub h1 h2 ha s hT⟩
      · exact ⟨_, _, .other h1 h2 ha T hT ho⟩

theorem dhS_right (x s : Bs) (hx : atomR x = true) (hs : atomR s = true) : (term (dhS x s)).isSome = true := by
  have lx := atomR_len hx
  have ls := atomR_len hs
  obtain ⟨a, b, ha, hb, hg, e⟩ : ∃ a b, atomR a = true ∧ atomR b = true ∧ gt a b = false ∧ dhS x s = (Tm.dh a b).tx := by
    unfold dhS
    cases hg : gt x s with
    | true => exact ⟨s, x, hs, hx, gt_back hg, rfl⟩
    | false => exact ⟨x, s, hx, hs, hg, rfl⟩
  rw [e, term_tx (T := .dh a b) ⟨ha, hb, hg⟩]
  have la := atomR_len ha
  have lb := atomR_len hb
  simp [Tm.tx, Tm.deep, say, oDh]
  omega

theorem make_dh (x s : Bs) (hs : atomR s = true) : makeR oDh [x, s] = if atomR x then (dhS x s, 0) else ([], 1) := by
  rw [makeR_args (by simp) (by decide) (by decide) (by show 2 = many oDh; decide)]
  have e : secret oDh = true := by decide
  have hm : madeT oDh [x, s] = dhS x s := by unfold madeT; rw [if_pos rfl]
  simp only [List.all_cons, List.all_nil, Bool.and_true, rights_eq, e, Bool.not_true, Bool.false_or]
  rw [hs, term_atom hs, hm]
  cases hx : atomR x with
  | false => simp
  | true =>
    rw [term_atom hx]
    unfold finR
    rw [dhS_right x s hx hs]
    simp
end Go.Proofs.YtonjohlecomeoaaGreat.dhs

/- The library's contract of strings.Join, laid at this program. -/
namespace Go.Proofs.YtonjohlecomeoaaGreat.shj
open Go.Shelf
def ren156 : Go.Shelf.Ren := ⟨fun | 156 => 183 | 165 => 198 | 166 => 199 | 169 => 200 | 240 => 207 | 241 => 208 | 276 => 210 | 277 => 211 | n => n, fun | 31 => 22 | 9 => 9 | 3 => 3 | 4 => 4 | 0 => 0 | 20 => 20 | 72 => 220 | 76 => 224 | 70 => 218 | 37 => 44 | 75 => 223 | 127 => 173 | 164 => 235 | 5 => 5 | 80 => 98 | n => n, fun | n => n⟩
theorem lays156 : Go.Proofs.Lays.n156 Tryz.prog ren156 := {
  mixed := by kernel_rfl
  f156 := Tryz.func183.trans (congrArg some (by kernel_rfl))
  f165 := Tryz.func198.trans (congrArg some (by kernel_rfl))
  f166 := Tryz.func199.trans (congrArg some (by kernel_rfl))
  f169 := Tryz.func200.trans (congrArg some (by kernel_rfl))
  f240 := Tryz.func207.trans (congrArg some (by kernel_rfl))
  f241 := Tryz.func208.trans (congrArg some (by kernel_rfl))
  f276 := Tryz.func210.trans (congrArg some (by kernel_rfl))
  f277 := Tryz.func211.trans (congrArg some (by kernel_rfl))
  t0 := Tryz.underlying0
  a0 := Tryz.isAgg0
  z0 := Tryz.sizeOf0
  v0 := Tryz.zeroValue0
  t3 := Tryz.underlying3
  a3 := Tryz.isAgg3
  z3 := Tryz.sizeOf3
  v3 := Tryz.zeroValue3
  t4 := Tryz.underlying4
  a4 := Tryz.isAgg4
  z4 := Tryz.sizeOf4
  v4 := Tryz.zeroValue4
  t9 := Tryz.underlying9
  a9 := Tryz.isAgg9
  z9 := Tryz.sizeOf9
  v9 := Tryz.zeroValue9
  t20 := Tryz.underlying20
  a20 := Tryz.isAgg20
  z20 := Tryz.sizeOf20
  v20 := Tryz.zeroValue20
  t31 := Tryz.underlying22
  a31 := Tryz.isAgg22
  z31 := Tryz.sizeOf22
  v31 := Tryz.zeroValue22
  t37 := Tryz.underlying44
  a37 := Tryz.isAgg44
  z37 := Tryz.sizeOf44
  v37 := Tryz.zeroValue44
  t70 := Tryz.underlying218
  a70 := Tryz.isAgg218
  z70 := Tryz.sizeOf218
  v70 := Tryz.zeroValue218
  t72 := Tryz.underlying220
  a72 := Tryz.isAgg220
  z72 := Tryz.sizeOf220
  v72 := Tryz.zeroValue220
  t75 := Tryz.underlying223
  a75 := Tryz.isAgg223
  z75 := Tryz.sizeOf223
  v75 := Tryz.zeroValue223
  t76 := Tryz.underlying224
  a76 := Tryz.isAgg224
  z76 := Tryz.sizeOf224
  v76 := Tryz.zeroValue224
  t127 := Tryz.underlying173
  a127 := Tryz.isAgg173
  z127 := Tryz.sizeOf173
  v127 := Tryz.zeroValue173
  t164 := Tryz.underlying235
  a164 := Tryz.isAgg235
  z164 := Tryz.sizeOf235
  v164 := Tryz.zeroValue235 }
theorem extra156 : Builder.Extra Tryz.prog ren156 := {
  sizeBuilder := by kernel_rfl
  liesBuilder := by kernel_rfl
  t5 := Tryz.underlying5
  a5 := Tryz.isAgg5
  z5 := Tryz.sizeOf5
  v5 := Tryz.zeroValue5
  infoByte := by kernel_rfl
  cellsByte := by kernel_rfl
  sizeByte := by kernel_rfl
  neB5 := by decide }

theorem join_none (a : Option Addr) (c : Nat) (sep : ByteArray) (w : World) :
    Calls Tryz.prog 183 #[.slice a 0 c, .string sep] w fun e w' => e = .returned (.string ⟨#[]⟩) ∧ w' = w := Any.strings_Join_none lays156 extra156 a c sep w
open Go.RowKit in
theorem join_some (bk o c : Nat) (xs : List ByteArray) (sep : ByteArray) (w : World) (hcells : ∀ (j : Nat) x, xs[j]? = some x → w.cell? ⟨bk, o + j, none⟩ = some (.string x)) (hbk : bk < w.heap.size) (hN : xs.length ≤ 140737488355328) (hcap : xs.length ≤ c) (hlen : (Lib.join (xs.map (·.data.toList)) sep.data.toList).length ≤ 140737488355328) :
    Calls Tryz.prog 183 #[.slice (some ⟨bk, o, none⟩) xs.length c, .string sep] w fun e w' => e = .returned (.string ⟨(Lib.join (xs.map (·.data.toList)) sep.data.toList).toArray⟩) ∧ Below w.heap.size w w' := Any.strings_Join lays156 extra156 bk o c xs sep w hcells hbk hN hcap hlen
end Go.Proofs.YtonjohlecomeoaaGreat.shj

/- The library's contracts of slices.Sort and slices.Compact at []string, laid at this program. -/
namespace Go.Proofs.YtonjohlecomeoaaGreat.shs
open Go.Shelf
def ren190 : Go.Shelf.Ren := ⟨fun | 190 => 160 | 125 => 181 | 258 => 180 | 128 => 196 | 129 => 197 | 302 => 187 | 303 => 188 | 304 => 189 | 305 => 190 | 306 => 191 | 307 => 192 | 308 => 193 | 309 => 194 | 310 => 195 | 333 => 201 | 329 => 202 | 330 => 203 | 334 => 204 | 335 => 205 | 336 => 206 | 344 => 209 | n => n, fun | 31 => 22 | 9 => 9 | 3 => 3 | 46 => 137 | 0 => 0 | 51 => 216 | 53 => 134 | 4 => 4 | 183 => 208 | 182 => 207 | 131 => 213 | 5 => 5 | 218 => 226 | 222 => 230 | 228 => 232 | 229 => 233 | n => n, fun | n => n⟩
theorem lays190 : Go.Proofs.Lays.n190 Tryz.prog ren190 := {
  mixed := by kernel_rfl
  f125 := Tryz.func181.trans (congrArg some (by kernel_rfl))
  f128 := Tryz.func196.trans (congrArg some (by kernel_rfl))
  f129 := Tryz.func197.trans (congrArg some (by kernel_rfl))
  f190 := Tryz.func160.trans (congrArg some (by kernel_rfl))
  f258 := Tryz.func180.trans (congrArg some (by kernel_rfl))
  f302 := Tryz.func187.trans (congrArg some (by kernel_rfl))
  f303 := Tryz.func188.trans (congrArg some (by kernel_rfl))
  f304 := Tryz.func189.trans (congrArg some (by kernel_rfl))
  f305 := Tryz.func190.trans (congrArg some (by kernel_rfl))
  f306 := Tryz.func191.trans (congrArg some (by kernel_rfl))
  f307 := Tryz.func192.trans (congrArg some (by kernel_rfl))
  f308 := Tryz.func193.trans (congrArg some (by kernel_rfl))
  f309 := Tryz.func194.trans (congrArg some (by kernel_rfl))
  f310 := Tryz.func195.trans (congrArg some (by kernel_rfl))
  f329 := Tryz.func202.trans (congrArg some (by kernel_rfl))
  f330 := Tryz.func203.trans (congrArg some (by kernel_rfl))
  f333 := Tryz.func201.trans (congrArg some (by kernel_rfl))
  f334 := Tryz.func204.trans (congrArg some (by kernel_rfl))
  f335 := Tryz.func205.trans (congrArg some (by kernel_rfl))
  f336 := Tryz.func206.trans (congrArg some (by kernel_rfl))
  f344 := Tryz.func209.trans (congrArg some (by kernel_rfl))
  t0 := Tryz.underlying0
  a0 := Tryz.isAgg0
  z0 := Tryz.sizeOf0
  v0 := Tryz.zeroValue0
  t3 := Tryz.underlying3
  a3 := Tryz.isAgg3
  z3 := Tryz.sizeOf3
  v3 := Tryz.zeroValue3
  t4 := Tryz.underlying4
  a4 := Tryz.isAgg4
  z4 := Tryz.sizeOf4
  v4 := Tryz.zeroValue4
  t5 := Tryz.underlying5
  a5 := Tryz.isAgg5
  z5 := Tryz.sizeOf5
  v5 := Tryz.zeroValue5
  t9 := Tryz.underlying9
  a9 := Tryz.isAgg9
  z9 := Tryz.sizeOf9
  v9 := Tryz.zeroValue9
  t31 := Tryz.underlying22
  a31 := Tryz.isAgg22
  z31 := Tryz.sizeOf22
  v31 := Tryz.zeroValue22
  t46 := Tryz.underlying137
  a46 := Tryz.isAgg137
  z46 := Tryz.sizeOf137
  v46 := Tryz.zeroValue137
  t51 := Tryz.underlying216
  a51 := Tryz.isAgg216
  z51 := Tryz.sizeOf216
  v51 := Tryz.zeroValue216
  t53 := Tryz.underlying134
  a53 := Tryz.isAgg134
  z53 := Tryz.sizeOf134
  v53 := Tryz.zeroValue134
  t131 := Tryz.underlying213
  a131 := Tryz.isAgg213
  z131 := Tryz.sizeOf213
  v131 := Tryz.zeroValue213
  t182 := Tryz.underlying207
  a182 := Tryz.isAgg207
  z182 := Tryz.sizeOf207
  v182 := Tryz.zeroValue207
  t183 := Tryz.underlying208
  a183 := Tryz.isAgg208
  z183 := Tryz.sizeOf208
  v183 := Tryz.zeroValue208
  t218 := Tryz.underlying226
  a218 := Tryz.isAgg226
  z218 := Tryz.sizeOf226
  v218 := Tryz.zeroValue226
  t222 := Tryz.underlying230
  a222 := Tryz.isAgg230
  z222 := Tryz.sizeOf230
  v222 := Tryz.zeroValue230
  t228 := Tryz.underlying232
  a228 := Tryz.isAgg232
  z228 := Tryz.sizeOf232
  v228 := Tryz.zeroValue232
  t229 := Tryz.underlying233
  a229 := Tryz.isAgg233
  z229 := Tryz.sizeOf233
  v229 := Tryz.zeroValue233 }

open Go.Sort Go.RowKit in
theorem sort_some (blk off cap : Nat) (ss : List (List UInt8)) (w : World) (hH : Holds encStr w blk off ss.toArray) (hblk : blk < w.heap.size) (hsz : ss.length < 4611686018427387904) :
    Calls Tryz.prog 160 #[.slice (some ⟨blk, off, none⟩) ss.length cap] w fun e w' =>
      e = .returned (.tuple #[]) ∧ ∃ n os, w' = grow (putRow encStr (Sort.ahead w n) blk off (ss.mergeSort fun x y => decide (x ≤ y)).toArray) os := Any.slices_Sort_string lays190 blk off cap ss w hH hblk hsz
open Go.RowKit Go.Sort in
theorem sort_none (p : Option Addr) (cap : Nat) (w : World) :
    Calls Tryz.prog 160 #[.slice p 0 cap] w fun e w' => e = .returned (.tuple #[]) ∧ w' = w := Any.slices_Sort_string_none lays190 p cap w
end Go.Proofs.YtonjohlecomeoaaGreat.shs
