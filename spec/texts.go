package spec

const dictText = `spec yes no zero s lt eq gt none some empty entry
sort truth
sort nat
sort order
sort res
sort dict
op yes() -> truth
op no() -> truth
op zero() -> nat
op s(nat) -> nat
op lt() -> order
op eq() -> order
op gt() -> order
op none() -> res
op some(nat) -> res
op empty() -> dict
op entry(nat, nat, dict) -> dict
op cmp(nat, nat) -> order
op pick(order, dict, dict, dict) -> dict
op put(dict, nat, nat) -> dict
op get(dict, nat) -> res
op get2(order, nat, res) -> res
op remove(dict, nat) -> dict
op floor(dict, nat) -> res
op floor2(order, nat, res) -> res
op or_else(res, nat) -> res
op ceiling(dict, nat) -> res
op ceiling2(order, nat, res) -> res
op rank(dict, nat) -> nat
op rank2(order, nat) -> nat
op select(dict, nat) -> res
op size(dict) -> nat
rule cmp(zero(), zero()) = eq()
rule cmp(zero(), s(B:nat)) = lt()
rule cmp(s(A:nat), zero()) = gt()
rule cmp(s(A:nat), s(B:nat)) = cmp(A:nat, B:nat)
rule pick(lt(), X:dict, Y:dict, Z:dict) = X:dict
rule pick(eq(), X:dict, Y:dict, Z:dict) = Y:dict
rule pick(gt(), X:dict, Y:dict, Z:dict) = Z:dict
rule put(empty(), K:nat, V:nat) = entry(K:nat, V:nat, empty())
rule put(entry(L:nat, W:nat, D:dict), K:nat, V:nat) = pick(cmp(K:nat, L:nat), entry(K:nat, V:nat, entry(L:nat, W:nat, D:dict)), entry(K:nat, V:nat, D:dict), entry(L:nat, W:nat, put(D:dict, K:nat, V:nat)))
rule get(empty(), K:nat) = none()
rule get(entry(L:nat, W:nat, D:dict), K:nat) = get2(cmp(K:nat, L:nat), W:nat, get(D:dict, K:nat))
rule get2(lt(), W:nat, R:res) = none()
rule get2(eq(), W:nat, R:res) = some(W:nat)
rule get2(gt(), W:nat, R:res) = R:res
rule remove(empty(), K:nat) = empty()
rule remove(entry(L:nat, W:nat, D:dict), K:nat) = pick(cmp(K:nat, L:nat), entry(L:nat, W:nat, D:dict), D:dict, entry(L:nat, W:nat, remove(D:dict, K:nat)))
rule floor(empty(), K:nat) = none()
rule floor(entry(L:nat, W:nat, D:dict), K:nat) = floor2(cmp(K:nat, L:nat), L:nat, floor(D:dict, K:nat))
rule floor2(lt(), L:nat, R:res) = none()
rule floor2(eq(), L:nat, R:res) = some(L:nat)
rule floor2(gt(), L:nat, R:res) = or_else(R:res, L:nat)
rule or_else(none(), L:nat) = some(L:nat)
rule or_else(some(N:nat), L:nat) = some(N:nat)
rule ceiling(empty(), K:nat) = none()
rule ceiling(entry(L:nat, W:nat, D:dict), K:nat) = ceiling2(cmp(K:nat, L:nat), L:nat, ceiling(D:dict, K:nat))
rule ceiling2(lt(), L:nat, R:res) = some(L:nat)
rule ceiling2(eq(), L:nat, R:res) = some(L:nat)
rule ceiling2(gt(), L:nat, R:res) = R:res
rule rank(empty(), K:nat) = zero()
rule rank(entry(L:nat, W:nat, D:dict), K:nat) = rank2(cmp(K:nat, L:nat), rank(D:dict, K:nat))
rule rank2(lt(), N:nat) = zero()
rule rank2(eq(), N:nat) = zero()
rule rank2(gt(), N:nat) = s(N:nat)
rule select(empty(), I:nat) = none()
rule select(entry(L:nat, W:nat, D:dict), zero()) = some(L:nat)
rule select(entry(L:nat, W:nat, D:dict), s(I:nat)) = select(D:dict, I:nat)
rule size(empty()) = zero()
rule size(entry(L:nat, W:nat, D:dict)) = s(size(D:dict))
`

const heapText = `spec yes no zero s lt eq gt none some empty item
sort truth
sort nat
sort order
sort res
sort heap
op yes() -> truth
op no() -> truth
op zero() -> nat
op s(nat) -> nat
op lt() -> order
op eq() -> order
op gt() -> order
op none() -> res
op some(nat) -> res
op empty() -> heap
op item(nat, heap) -> heap
op cmp(nat, nat) -> order
op pick(order, heap, heap, heap) -> heap
op insert(heap, nat) -> heap
op least(heap) -> res
op deletemin(heap) -> heap
op size(heap) -> nat
rule cmp(zero(), zero()) = eq()
rule cmp(zero(), s(B:nat)) = lt()
rule cmp(s(A:nat), zero()) = gt()
rule cmp(s(A:nat), s(B:nat)) = cmp(A:nat, B:nat)
rule pick(lt(), X:heap, Y:heap, Z:heap) = X:heap
rule pick(eq(), X:heap, Y:heap, Z:heap) = Y:heap
rule pick(gt(), X:heap, Y:heap, Z:heap) = Z:heap
rule insert(empty(), P:nat) = item(P:nat, empty())
rule insert(item(Q:nat, H:heap), P:nat) = pick(cmp(P:nat, Q:nat), item(P:nat, item(Q:nat, H:heap)), item(P:nat, item(Q:nat, H:heap)), item(Q:nat, insert(H:heap, P:nat)))
rule least(empty()) = none()
rule least(item(Q:nat, H:heap)) = some(Q:nat)
rule deletemin(empty()) = empty()
rule deletemin(item(Q:nat, H:heap)) = H:heap
rule size(empty()) = zero()
rule size(item(Q:nat, H:heap)) = s(size(H:heap))
`

const seqText = `spec yes no zero s lt eq gt none some empty cons
sort truth
sort nat
sort order
sort res
sort seq
op yes() -> truth
op no() -> truth
op zero() -> nat
op s(nat) -> nat
op lt() -> order
op eq() -> order
op gt() -> order
op none() -> res
op some(nat) -> res
op empty() -> seq
op cons(nat, seq) -> seq
op leq(nat, nat) -> truth
op both(truth, truth) -> truth
op plus(nat, nat) -> nat
op minus(nat, nat) -> nat
op insert(seq, nat, nat) -> seq
op remove(seq, nat) -> seq
op get(seq, nat) -> res
op set(seq, nat, nat) -> seq
op sum(seq, nat, nat) -> res
op sum2(truth, nat) -> res
op reverse(seq, nat, nat) -> seq
op reverse2(truth, seq, seq) -> seq
op size(seq) -> nat
op span(seq, nat, nat) -> truth
op take(nat, seq) -> seq
op drop(nat, seq) -> seq
op total(seq) -> nat
op join(seq, seq) -> seq
op back(seq, seq) -> seq
rule leq(zero(), B:nat) = yes()
rule leq(s(A:nat), zero()) = no()
rule leq(s(A:nat), s(B:nat)) = leq(A:nat, B:nat)
rule both(no(), Y:truth) = no()
rule both(yes(), Y:truth) = Y:truth
rule plus(zero(), B:nat) = B:nat
rule plus(s(A:nat), B:nat) = s(plus(A:nat, B:nat))
rule minus(A:nat, zero()) = A:nat
rule minus(zero(), s(B:nat)) = zero()
rule minus(s(A:nat), s(B:nat)) = minus(A:nat, B:nat)
rule insert(empty(), zero(), V:nat) = cons(V:nat, empty())
rule insert(empty(), s(I:nat), V:nat) = empty()
rule insert(cons(A:nat, L:seq), zero(), V:nat) = cons(V:nat, cons(A:nat, L:seq))
rule insert(cons(A:nat, L:seq), s(I:nat), V:nat) = cons(A:nat, insert(L:seq, I:nat, V:nat))
rule remove(empty(), I:nat) = empty()
rule remove(cons(A:nat, L:seq), zero()) = L:seq
rule remove(cons(A:nat, L:seq), s(I:nat)) = cons(A:nat, remove(L:seq, I:nat))
rule get(empty(), I:nat) = none()
rule get(cons(A:nat, L:seq), zero()) = some(A:nat)
rule get(cons(A:nat, L:seq), s(I:nat)) = get(L:seq, I:nat)
rule set(empty(), I:nat, V:nat) = empty()
rule set(cons(A:nat, L:seq), zero(), V:nat) = cons(V:nat, L:seq)
rule set(cons(A:nat, L:seq), s(I:nat), V:nat) = cons(A:nat, set(L:seq, I:nat, V:nat))
rule span(L:seq, I:nat, J:nat) = both(leq(I:nat, J:nat), leq(J:nat, size(L:seq)))
rule sum(L:seq, I:nat, J:nat) = sum2(span(L:seq, I:nat, J:nat), total(take(minus(J:nat, I:nat), drop(I:nat, L:seq))))
rule sum2(no(), N:nat) = none()
rule sum2(yes(), N:nat) = some(N:nat)
rule reverse(L:seq, I:nat, J:nat) = reverse2(span(L:seq, I:nat, J:nat), L:seq, join(take(I:nat, L:seq), join(back(take(minus(J:nat, I:nat), drop(I:nat, L:seq)), empty()), drop(J:nat, L:seq))))
rule reverse2(no(), L:seq, M:seq) = L:seq
rule reverse2(yes(), L:seq, M:seq) = M:seq
rule size(empty()) = zero()
rule size(cons(A:nat, L:seq)) = s(size(L:seq))
rule take(zero(), L:seq) = empty()
rule take(s(I:nat), empty()) = empty()
rule take(s(I:nat), cons(A:nat, L:seq)) = cons(A:nat, take(I:nat, L:seq))
rule drop(zero(), L:seq) = L:seq
rule drop(s(I:nat), empty()) = empty()
rule drop(s(I:nat), cons(A:nat, L:seq)) = drop(I:nat, L:seq)
rule total(empty()) = zero()
rule total(cons(A:nat, L:seq)) = plus(A:nat, total(L:seq))
rule join(empty(), M:seq) = M:seq
rule join(cons(A:nat, L:seq), M:seq) = cons(A:nat, join(L:seq, M:seq))
rule back(empty(), M:seq) = M:seq
rule back(cons(A:nat, L:seq), M:seq) = back(L:seq, cons(A:nat, M:seq))
`

const setsText = `spec yes no zero s lt eq gt none some end cons nowhere there empty class
sort truth
sort nat
sort order
sort res
sort list
sort found
sort sets
op yes() -> truth
op no() -> truth
op zero() -> nat
op s(nat) -> nat
op lt() -> order
op eq() -> order
op gt() -> order
op none() -> res
op some(nat) -> res
op end() -> list
op cons(nat, list) -> list
op nowhere() -> found
op there(list) -> found
op empty() -> sets
op class(list, sets) -> sets
op cmp(nat, nat) -> order
op plus(nat, nat) -> nat
op pick(order, sets, sets, sets) -> sets
op pick2(order, list, list, list) -> list
op length(list) -> nat
op total(sets) -> nat
op make(sets) -> sets
op last(sets, nat) -> sets
op union(sets, nat, nat) -> sets
op union2(found, found, sets) -> sets
op union3(order, nat, list, nat, list, sets) -> sets
op same(sets, nat, nat) -> res
op same2(found, found) -> res
op same3(order) -> res
op size(sets, nat) -> res
op size2(found) -> res
op count(sets) -> nat
op find(sets, nat) -> found
op find2(truth, list, found) -> found
op member(list, nat) -> truth
op member2(order, truth) -> truth
op without(sets, nat) -> sets
op place(list, sets) -> sets
op merge(list, list) -> list
op enter(nat, list) -> list
rule cmp(zero(), zero()) = eq()
rule cmp(zero(), s(B:nat)) = lt()
rule cmp(s(A:nat), zero()) = gt()
rule cmp(s(A:nat), s(B:nat)) = cmp(A:nat, B:nat)
rule pick(lt(), X:sets, Y:sets, Z:sets) = X:sets
rule pick(eq(), X:sets, Y:sets, Z:sets) = Y:sets
rule pick(gt(), X:sets, Y:sets, Z:sets) = Z:sets
rule pick2(lt(), X:list, Y:list, Z:list) = X:list
rule pick2(eq(), X:list, Y:list, Z:list) = Y:list
rule pick2(gt(), X:list, Y:list, Z:list) = Z:list
rule plus(zero(), B:nat) = B:nat
rule plus(s(A:nat), B:nat) = s(plus(A:nat, B:nat))
rule length(end()) = zero()
rule length(cons(A:nat, L:list)) = s(length(L:list))
rule total(empty()) = zero()
rule total(class(L:list, S:sets)) = plus(length(L:list), total(S:sets))
rule make(S:sets) = last(S:sets, total(S:sets))
rule last(empty(), N:nat) = class(cons(N:nat, end()), empty())
rule last(class(L:list, S:sets), N:nat) = class(L:list, last(S:sets, N:nat))
rule union(S:sets, A:nat, B:nat) = union2(find(S:sets, A:nat), find(S:sets, B:nat), S:sets)
rule union2(nowhere(), F:found, S:sets) = S:sets
rule union2(there(end()), F:found, S:sets) = S:sets
rule union2(there(cons(A:nat, L:list)), nowhere(), S:sets) = S:sets
rule union2(there(cons(A:nat, L:list)), there(end()), S:sets) = S:sets
rule union2(there(cons(A:nat, L:list)), there(cons(B:nat, M:list)), S:sets) = union3(cmp(A:nat, B:nat), A:nat, L:list, B:nat, M:list, S:sets)
rule union3(eq(), A:nat, L:list, B:nat, M:list, S:sets) = S:sets
rule union3(lt(), A:nat, L:list, B:nat, M:list, S:sets) = place(merge(cons(A:nat, L:list), cons(B:nat, M:list)), without(without(S:sets, A:nat), B:nat))
rule union3(gt(), A:nat, L:list, B:nat, M:list, S:sets) = place(merge(cons(A:nat, L:list), cons(B:nat, M:list)), without(without(S:sets, A:nat), B:nat))
rule same(S:sets, A:nat, B:nat) = same2(find(S:sets, A:nat), find(S:sets, B:nat))
rule same2(nowhere(), F:found) = none()
rule same2(there(end()), F:found) = none()
rule same2(there(cons(A:nat, L:list)), nowhere()) = none()
rule same2(there(cons(A:nat, L:list)), there(end())) = none()
rule same2(there(cons(A:nat, L:list)), there(cons(B:nat, M:list))) = same3(cmp(A:nat, B:nat))
rule same3(eq()) = some(s(zero()))
rule same3(lt()) = some(zero())
rule same3(gt()) = some(zero())
rule size(S:sets, A:nat) = size2(find(S:sets, A:nat))
rule size2(nowhere()) = none()
rule size2(there(L:list)) = some(length(L:list))
rule count(empty()) = zero()
rule count(class(L:list, S:sets)) = s(count(S:sets))
rule find(empty(), A:nat) = nowhere()
rule find(class(L:list, S:sets), A:nat) = find2(member(L:list, A:nat), L:list, find(S:sets, A:nat))
rule find2(yes(), L:list, F:found) = there(L:list)
rule find2(no(), L:list, F:found) = F:found
rule member(end(), A:nat) = no()
rule member(cons(B:nat, L:list), A:nat) = member2(cmp(A:nat, B:nat), member(L:list, A:nat))
rule member2(lt(), Y:truth) = no()
rule member2(eq(), Y:truth) = yes()
rule member2(gt(), Y:truth) = Y:truth
rule without(empty(), A:nat) = empty()
rule without(class(end(), S:sets), A:nat) = class(end(), without(S:sets, A:nat))
rule without(class(cons(B:nat, L:list), S:sets), A:nat) = pick(cmp(A:nat, B:nat), class(cons(B:nat, L:list), S:sets), S:sets, class(cons(B:nat, L:list), without(S:sets, A:nat)))
rule place(end(), S:sets) = class(end(), S:sets)
rule place(cons(A:nat, L:list), empty()) = class(cons(A:nat, L:list), empty())
rule place(cons(A:nat, L:list), class(end(), S:sets)) = class(cons(A:nat, L:list), class(end(), S:sets))
rule place(cons(A:nat, L:list), class(cons(B:nat, M:list), S:sets)) = pick(cmp(A:nat, B:nat), class(cons(A:nat, L:list), class(cons(B:nat, M:list), S:sets)), class(cons(A:nat, L:list), class(cons(B:nat, M:list), S:sets)), class(cons(B:nat, M:list), place(cons(A:nat, L:list), S:sets)))
rule merge(end(), M:list) = M:list
rule merge(cons(A:nat, L:list), M:list) = merge(L:list, enter(A:nat, M:list))
rule enter(A:nat, end()) = cons(A:nat, end())
rule enter(A:nat, cons(B:nat, M:list)) = pick2(cmp(A:nat, B:nat), cons(A:nat, cons(B:nat, M:list)), cons(A:nat, cons(B:nat, M:list)), cons(B:nat, enter(A:nat, M:list)))
`

const rangeText = `spec yes no zero s lt eq gt none some pt rect empty more
sort truth
sort nat
sort order
sort res
sort pt
sort rect
sort points
op yes() -> truth
op no() -> truth
op zero() -> nat
op s(nat) -> nat
op lt() -> order
op eq() -> order
op gt() -> order
op none() -> res
op some(nat) -> res
op pt(nat, nat, nat) -> pt
op rect(nat, nat, nat, nat) -> rect
op empty() -> points
op more(pt, points) -> points
op cmp(nat, nat) -> order
op pick(order, points, points, points) -> points
op leq(nat, nat) -> truth
op both(truth, truth) -> truth
op plus(nat, nat) -> nat
op at(pt, pt) -> order
op at2(order, order) -> order
op inside(pt, rect) -> truth
op add(points, pt) -> points
op remove(points, pt) -> points
op count(points, rect) -> nat
op count2(truth, nat) -> nat
op sum(points, rect) -> nat
op sum2(truth, nat, nat) -> nat
op size(points) -> nat
rule cmp(zero(), zero()) = eq()
rule cmp(zero(), s(B:nat)) = lt()
rule cmp(s(A:nat), zero()) = gt()
rule cmp(s(A:nat), s(B:nat)) = cmp(A:nat, B:nat)
rule pick(lt(), X:points, Y:points, Z:points) = X:points
rule pick(eq(), X:points, Y:points, Z:points) = Y:points
rule pick(gt(), X:points, Y:points, Z:points) = Z:points
rule leq(zero(), B:nat) = yes()
rule leq(s(A:nat), zero()) = no()
rule leq(s(A:nat), s(B:nat)) = leq(A:nat, B:nat)
rule both(no(), Y:truth) = no()
rule both(yes(), Y:truth) = Y:truth
rule plus(zero(), B:nat) = B:nat
rule plus(s(A:nat), B:nat) = s(plus(A:nat, B:nat))
rule at(pt(X:nat, Y:nat, W:nat), pt(A:nat, B:nat, V:nat)) = at2(cmp(X:nat, A:nat), cmp(Y:nat, B:nat))
rule at2(lt(), O:order) = lt()
rule at2(eq(), O:order) = O:order
rule at2(gt(), O:order) = gt()
rule inside(pt(X:nat, Y:nat, W:nat), rect(A:nat, B:nat, C:nat, D:nat)) = both(both(leq(A:nat, X:nat), leq(X:nat, B:nat)), both(leq(C:nat, Y:nat), leq(Y:nat, D:nat)))
rule add(empty(), Q:pt) = more(Q:pt, empty())
rule add(more(R:pt, P:points), Q:pt) = pick(at(Q:pt, R:pt), more(Q:pt, more(R:pt, P:points)), more(R:pt, P:points), more(R:pt, add(P:points, Q:pt)))
rule remove(empty(), Q:pt) = empty()
rule remove(more(R:pt, P:points), Q:pt) = pick(at(Q:pt, R:pt), more(R:pt, P:points), P:points, more(R:pt, remove(P:points, Q:pt)))
rule count(empty(), T:rect) = zero()
rule count(more(R:pt, P:points), T:rect) = count2(inside(R:pt, T:rect), count(P:points, T:rect))
rule count2(yes(), N:nat) = s(N:nat)
rule count2(no(), N:nat) = N:nat
rule sum(empty(), T:rect) = zero()
rule sum(more(pt(X:nat, Y:nat, W:nat), P:points), T:rect) = sum2(inside(pt(X:nat, Y:nat, W:nat), T:rect), W:nat, sum(P:points, T:rect))
rule sum2(yes(), W:nat, N:nat) = plus(W:nat, N:nat)
rule sum2(no(), W:nat, N:nat) = N:nat
rule size(empty()) = zero()
rule size(more(R:pt, P:points)) = s(size(P:points))
`

const textText = `spec yes no zero s lt eq gt none some empty char
sort truth
sort nat
sort order
sort res
sort text
op yes() -> truth
op no() -> truth
op zero() -> nat
op s(nat) -> nat
op lt() -> order
op eq() -> order
op gt() -> order
op none() -> res
op some(nat) -> res
op empty() -> text
op char(nat, text) -> text
op cmp(nat, nat) -> order
op append(text, text) -> text
op prefix(text, text) -> truth
op prefix2(order, truth) -> truth
op count(text, text) -> nat
op count2(truth, nat) -> nat
op find(text, text) -> res
op find2(truth, res) -> res
op next(res) -> res
op size(text) -> nat
rule cmp(zero(), zero()) = eq()
rule cmp(zero(), s(B:nat)) = lt()
rule cmp(s(A:nat), zero()) = gt()
rule cmp(s(A:nat), s(B:nat)) = cmp(A:nat, B:nat)
rule append(empty(), U:text) = U:text
rule append(char(A:nat, T:text), U:text) = char(A:nat, append(T:text, U:text))
rule prefix(empty(), T:text) = yes()
rule prefix(char(A:nat, W:text), empty()) = no()
rule prefix(char(A:nat, W:text), char(B:nat, T:text)) = prefix2(cmp(A:nat, B:nat), prefix(W:text, T:text))
rule prefix2(lt(), Y:truth) = no()
rule prefix2(eq(), Y:truth) = Y:truth
rule prefix2(gt(), Y:truth) = no()
rule count(empty(), W:text) = zero()
rule count(char(A:nat, T:text), W:text) = count2(prefix(W:text, char(A:nat, T:text)), count(T:text, W:text))
rule count2(yes(), N:nat) = s(N:nat)
rule count2(no(), N:nat) = N:nat
rule find(empty(), W:text) = none()
rule find(char(A:nat, T:text), W:text) = find2(prefix(W:text, char(A:nat, T:text)), find(T:text, W:text))
rule find2(yes(), F:res) = some(zero())
rule find2(no(), F:res) = next(F:res)
rule next(none()) = none()
rule next(some(N:nat)) = some(s(N:nat))
rule size(empty()) = zero()
rule size(char(A:nat, T:text)) = s(size(T:text))
`
