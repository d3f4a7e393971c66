package arith

import (
	"math"

	"jobshell/api"
	"jobshell/chars"
	"jobshell/constant"
)

// failure is an error and its offset.
type failure struct {
	at    int
	errno api.Errno
}

// parser contains the tokens that are not yet parsed, the last of which is the end of the input. Its methods report an error by a panic with a failure.
type parser struct{ tokens []token }

// fail reports an error at the next token.
func (p *parser) fail(errno api.Errno) { panic(failure{p.tokens[0].at, errno}) }

func (p *parser) skip() { p.tokens = p.tokens[1:] }

// accept skips the next token if it is the given symbol.
func (p *parser) accept(symbol string) bool {
	ok := p.tokens[0].text == symbol
	if ok {
		p.skip()
	}
	return ok
}

func (p *parser) expect(symbol string) {
	if !p.accept(symbol) {
		p.fail(api.ErrSyntax)
	}
}

// input parses all tokens.
func (p *parser) input() api.Expr {
	if p.tokens[0].kind == tokenEnd {
		return api.Expr{Op: api.XNum}
	}
	e := p.assignment()
	if p.tokens[0].kind != tokenEnd {
		p.fail(api.ErrSyntax)
	}
	if depth(e) > api.MaxDepth {
		panic(failure{0, api.ErrDepth})
	}
	return e
}

// assignment parses an expression of the level 1.
func (p *parser) assignment() api.Expr {
	if p.tokens[0].kind != tokenName {
		return p.conditional()
	}
	op, ok := assignmentAt(p.tokens[1].text)
	if !ok {
		return p.conditional()
	}
	name := p.name()
	p.skip()
	return api.Expr{Op: api.XSet, N: op, Name: name, Kids: []api.Expr{p.assignment()}}
}

// conditional parses an expression of the level 2.
func (p *parser) conditional() api.Expr {
	first := p.operation(levelOr)
	if !p.accept("?") {
		return first
	}
	second := p.assignment()
	p.expect(":")
	return api.Expr{Op: api.XCond, Kids: []api.Expr{first, second, p.conditional()}}
}

// operation parses an expression of a level from 3 to 13.
func (p *parser) operation(level int) api.Expr {
	left := p.unary()
	for {
		b, ok := binaryAt(p.tokens[0].text)
		if !ok || b.level < level {
			return left
		}
		p.skip()
		left = api.Expr{Op: b.op, Kids: []api.Expr{left, p.operation(b.level + 1)}}
	}
}

// unary parses an expression of the level 13.
func (p *parser) unary() api.Expr {
	op, ok := unaryAt(p.tokens[0].text)
	if !ok {
		return p.single()
	}
	p.skip()
	return api.Expr{Op: op, Kids: []api.Expr{p.unary()}}
}

// single parses an expression of the level 14.
func (p *parser) single() api.Expr {
	switch p.tokens[0].kind {
	case tokenConstant:
		return api.Expr{Op: api.XNum, N: p.number()}
	case tokenName:
		return api.Expr{Op: api.XVar, Name: p.name()}
	}
	p.expect("(")
	e := p.assignment()
	p.expect(")")
	return e
}

func (p *parser) number() int {
	value, errno := constant.Value(p.tokens[0].text, math.MaxInt64)
	if errno != api.OK {
		p.fail(errno)
	}
	p.skip()
	return int(value)
}

func (p *parser) name() string {
	name := p.tokens[0].text
	if !chars.Name(name) {
		p.fail(api.ErrName)
	}
	p.skip()
	return name
}

// depth returns the depth of an expression.
func depth(e api.Expr) int {
	below := 0
	for _, kid := range e.Kids {
		below = max(below, depth(kid))
	}
	return below + 1
}
